/-
  Texts of the proofs, 1 of 6.
-/
import Derived.Test.YtenejaghgehnoaaGreatDoorRows
import Derived.WalkKit
import Derived.WalkSpells
import Derived.OwnWalk
import Derived.OneCell
import Derived.Laws.Pointers
import Derived.Laws.CopyOwn
import Derived.Laws.IdiomStrings
import Derived.Laws.BytesString
import Derived.Laws.AppendOwnNone
import Derived.Maps.AppendAt
import Derived.Deep.AppendLies
import Derived.Deep.AppendSrc
import Derived.Deep.Onto
import Derived.Deep.RegionHeld3
import Derived.Deep.QuietTactic
import Derived.BigQuiet
import Derived.Deep.DrawnRows
import Derived.KernelRfl
import Derived.Maps.OwnSet
import Derived.Maps.RangeWalk
import Derived.Sort.KeysCollected
import Derived.ScopeJumps
import Derived.Lib.ItoaNum
import Derived.Lib.TrimByte
import Derived.Lib.SmallJoins
import Derived.Laws.DeepStrings4
import Derived.Shelf.Strings.Trim
import Derived.Shelf.Strings.BuilderK
import Derived.Shelf.Strconv.Itoa3
import Derived.Shelf.Strconv.Clone
import Derived.Shelf.Strings.Search2
import Derived.Laws.ResultCell
import Derived.Shelf.Spec.SlicesGrow
namespace Go.Proofs.YtenejaghgehnoaaGreatDoor
open Go.RowKit

/-- Bytes as cells of memory. -/
def cells (bs : List UInt8) : List Value := bs.map fun b => Value.int .u8 b.toNat

/-- Of the blocks that were there, those that p lets through are as they were; no other thing outside has turned. -/
structure Kept (p : Nat → Prop) (w w' : World) : Prop where
  os : w'.os = w.os
  tape : w'.tape = w.tape
  output : w'.output = w.output
  size : w.heap.size ≤ w'.heap.size
  block : ∀ k, k < w.heap.size → p k → w'.heap[k]? = w.heap[k]?

theorem Kept.refl (p : Nat → Prop) (w : World) : Kept p w w := ⟨rfl, rfl, rfl, Nat.le_refl _, fun _ _ _ => rfl⟩
theorem Kept.trans {p : Nat → Prop} {a b c : World} (h : Kept p a b) (k : Kept p b c) : Kept p a c :=
  ⟨k.os.trans h.os, k.tape.trans h.tape, k.output.trans h.output, Nat.le_trans h.size k.size, fun i hi hp => (k.block i (Nat.lt_of_lt_of_le hi h.size) hp).trans (h.block i hi hp)⟩
/-- Two steps, of which the second may write what was made behind the first. -/
theorem Kept.then {p q : Nat → Prop} {a b c : World} (h : Kept p a b) (k : Kept q b c) (hq : ∀ i, i < a.heap.size → p i → q i) : Kept p a c :=
  ⟨k.os.trans h.os, k.tape.trans h.tape, k.output.trans h.output, Nat.le_trans h.size k.size, fun i hi hp => (k.block i (Nat.lt_of_lt_of_le hi h.size) (hq i hi hp)).trans (h.block i hi hp)⟩
theorem Kept.mono {p q : Nat → Prop} {a b : World} (h : Kept p a b) (hq : ∀ i, i < a.heap.size → q i → p i) : Kept q a b :=
  ⟨h.os, h.tape, h.output, h.size, fun i hi hp => h.block i hi (hq i hi hp)⟩
theorem Kept.drew {p : Nat → Prop} {a w : World} (h : Kept p a w) : Kept p a w.drew := ⟨h.os, h.tape, h.output, h.size, h.block⟩
theorem Kept.drewN {p : Nat → Prop} {a w : World} (h : Kept p a w) (n : Nat) : Kept p a (w.drewN n) := ⟨h.os, h.tape, h.output, h.size, h.block⟩
theorem Kept.alloc {p : Nat → Prop} {a w : World} (h : Kept p a w) (o : Obj) : Kept p a (w.alloc o) :=
  h.trans ⟨rfl, rfl, rfl, by simp, fun k hk _ => Below.heap_alloc _ _ _ hk⟩
theorem Kept.setCell {p : Nat → Prop} {a w : World} (h : Kept p a w) {ad : Addr} (hp : ¬ p ad.block) (u : Value) : Kept p a (w.setCell ad u) :=
  h.trans ⟨rfl, rfl, rfl, by simp [World.setCell], fun k _ hk => Below.heap_setCell _ _ _ _ (fun e => hp (e ▸ hk))⟩
theorem Kept.grown {p : Nat → Prop} {a w w' : World} {row : Option Nat} (h : Kept p a w) (hg : w.grownBy w' row) (hr : ∀ k, k < a.heap.size → row = some k → ¬ p k) : Kept p a w' :=
  ⟨hg.os.trans h.os, hg.tape.trans h.tape, hg.output.trans h.output, Nat.le_trans h.size hg.size,
   fun k hk hp => (hg.block k (Nat.lt_of_lt_of_le hk h.size) (fun e => hr k hk e.symm hp)).trans (h.block k hk hp)⟩
/-- From 'Below': everything that was there is as it was. -/
theorem Kept.below {w w' : World} (h : Kept (fun _ => True) w w') : Below w.heap.size w w' :=
  ⟨h.os, h.tape, h.output, h.size, fun k hk => h.block k hk trivial⟩
theorem Kept.ofBelow {w w' : World} (p : Nat → Prop) (h : Below w.heap.size w w') : Kept p w w' :=
  ⟨h.os, h.tape, h.output, h.size, fun k hk _ => h.block k hk⟩

theorem Tryz.infoU8 : (Tryz.prog.info? 5).map (fun i => (i.zero, i.size, i.bytes)) = some (some (.int .u8 0), 1, 1) := by kernel_rfl
/-- What a slice value of bytes reads as. -/
def Has (w : World) (ao : Option Addr) (bs : List UInt8) : Prop := 0 < bs.length → ∃ ad, ao = some ad ∧ ∀ j (hj : j < bs.length), w.cell? (ad.add j) = some (.int .u8 (bs[j].toNat : Int))
theorem Has.kept {p : Nat → Prop} {w w' : World} {ao : Option Addr} {bs : List UInt8} (h : Has w ao bs) (hk : Kept p w w') (hp : ∀ ad, ao = some ad → p ad.block) : Has w' ao bs := by
  intro h0
  obtain ⟨ad, rfl, hc⟩ := h h0
  refine ⟨ad, rfl, fun j hj => ?_⟩
  have hb : (ad.add j).block = ad.block := by unfold Addr.add; split <;> rfl
  have hlt : ad.block < w.heap.size := by
    have := World.block_lt_of_cell? w _ (hc j hj)
    rwa [hb] at this
  rw [World.cell?_of_block (w := w) (by rw [hb]; exact hk.block ad.block hlt (hp ad rfl))]
  exact hc j hj

/-- A slice value of the bytes bs. -/
def Sl (w : World) (v : Value) (bs : List UInt8) : Prop := ∃ ao cap, v = .slice ao bs.length cap ∧ (ao = none → cap = 0) ∧ Has w ao bs

theorem Sl.kept {p : Nat → Prop} {w w' : World} {ao : Option Addr} {n cap : Nat} {bs : List UInt8} (h : Sl w (.slice ao n cap) bs) (hk : Kept p w w') (hp : ∀ k, k < w.heap.size → p k) : Sl w' (.slice ao n cap) bs := by
  obtain ⟨ao', cap', e, hn, hh⟩ := h
  refine ⟨ao', cap', e, hn, fun h0 => ?_⟩
  obtain ⟨ad, rfl, hc⟩ := hh h0
  have hb : ad.block < w.heap.size := by
    have := World.block_lt_of_cell? w _ (hc 0 h0)
    simpa [Addr.add] using this
  exact (Has.kept (fun _ => ⟨ad, rfl, hc⟩ : Has w (some ad) bs) hk (fun x hx => by cases hx; exact hp _ hb)) h0
/-- The cells of such a slice, at a plain address. -/
theorem Sl.plain {w : World} {ao : Option Addr} {n cap : Nat} {bs : List UInt8} (h : Sl w (.slice ao n cap) bs) (h0 : 0 < bs.length) : ∃ b off, ao = some ⟨b, off, none⟩ ∧ b < w.heap.size ∧ ∀ j (hj : j < bs.length), w.cell? ⟨b, off + j, none⟩ = some (.int .u8 (bs[j]).toNat) := by
  obtain ⟨ao', cap', e, hn, hh⟩ := h
  cases e
  obtain ⟨⟨b, off, spot⟩, rfl, hc⟩ := hh h0
  have hs : spot = none := by simpa [Addr.add] using World.cell?_spot (hc 0 h0)
  subst hs
  refine ⟨b, off, rfl, ?_, fun j hj => ?_⟩
  · have := World.block_lt_of_cell? w _ (hc 0 h0)
    simpa [Addr.add] using this
  · rw [← WideShapes.add_plain]; exact hc j hj

theorem kept_cell {p : Nat → Prop} {w w' : World} (h : Kept p w w') {b o : Nat} (hlt : b < w.heap.size) (hp : p b) : w'.cell? ⟨b, o, none⟩ = w.cell? ⟨b, o, none⟩ := World.cell?_of_block (w := w) (h.block b hlt hp)
theorem kept_frozen {p : Nat → Prop} {w w' : World} (h : Kept p w w') {b o : Nat} (hlt : b < w.heap.size) (hp : p b) : w'.frozen? ⟨b, o, none⟩ = w.frozen? ⟨b, o, none⟩ := World.frozen?_of_block (w := w) (h.block b hlt hp)
theorem drew_two (w : World) (a b : Nat) : (w.drewN a).drewN b = w.drewN (a + b) := by simp [World.drewN, Nat.add_assoc]

theorem has_plain {w : World} {ao : Option Addr} {bs : List UInt8} (h : Has w ao bs) (h0 : 0 < bs.length) : ∃ b off, ao = some ⟨b, off, none⟩ ∧ ∀ j (hj : j < bs.length), w.cell? ⟨b, off + j, none⟩ = some (.int .u8 (bs[j]).toNat) := by
  obtain ⟨⟨b, off, spot⟩, rfl, hc⟩ := h h0
  have hs : spot = none := by simpa [Addr.add] using World.cell?_spot (hc 0 h0)
  subst hs
  exact ⟨b, off, rfl, fun j hj => by rw [← WideShapes.add_plain]; exact hc j hj⟩

end Go.Proofs.YtenejaghgehnoaaGreatDoor

namespace Go.Proofs.YtenejaghgehnoaaGreatDoor
open Go.RowKit

/-- Within, plainly. -/
def wi (n : Int) (m : Nat) : Nat := (if n.tmod ((m : Int) + 1) < 0 then n.tmod ((m : Int) + 1) + (m : Int) + 1 else n.tmod ((m : Int) + 1)).toNat
theorem wi_le (n : Int) (m : Nat) : wi n m ≤ m := by
  have h1 : n.tmod ((m : Int) + 1) < (m : Int) + 1 := Int.tmod_lt_of_pos n (by omega)
  unfold wi
  split <;> omega
set_option maxHeartbeats 1000000 in
theorem wi_any {w : World} (n : Int) (m : Nat) (hm : m ≤ 1000000000000) :
    Calls Tryz.prog 24 #[.int .i64 n, .int .i64 0, .int .i64 m] w fun e w' => e = .returned (.int .i64 (wi n m : Nat)) ∧ w' = w := by
  have hz : ((m : Int) + 1 == 0) = false := by simp; omega
  have hz2 : ¬ ((m : Int) + 1 = 0) := by omega
  have hz3 : ¬ ((m : Int) + 1 = -1) := by omega
  have h1 : n.tmod ((m : Int) + 1) < (m : Int) + 1 := Int.tmod_lt_of_pos n (by omega)
  have h2 : -((m : Int) + 1) < n.tmod ((m : Int) + 1) := by
    have := Int.tmod_lt_of_pos (-n) (show (0 : Int) < (m : Int) + 1 by omega)
    rw [Int.neg_tmod] at this
    omega
  unfold wi
  generalize hr : n.tmod ((m : Int) + 1) = r at *
  by_cases hn : r < 0
  · rw [if_pos hn, Int.toNat_of_nonneg (by omega)]
    go_enter Tryz.func24, Tryz.ntmps24
    go_wp2
    go_ret
    exact ⟨rfl, rfl⟩
  · rw [if_neg hn, Int.toNat_of_nonneg (by omega)]
    go_enter Tryz.func24, Tryz.ntmps24
    go_wp2
    go_ret
    exact ⟨rfl, rfl⟩
theorem lit_cell {w : World} {G : Nat} {cs : Array Value} {ty : TypeId} {fr : Nat × Nat} (h : w.heap[G]? = some (.cells cs ty fr)) {k : Nat} {v : Value} (hv : cs[k]? = some v) : w.cell? ⟨G, k, none⟩ = some v := by
  rw [cell_of_row w G _ _ _ _ h]
  exact hv

end Go.Proofs.YtenejaghgehnoaaGreatDoor

namespace Go.Proofs.YtenejaghgehnoaaGreatDoor
open Go.RowKit Go.Maps Go.Sort

/-- How elements lie in a map, and what they read as. -/
structure Cde (α : Type) where
  enc : α → Value
  dat : α → DataW Unit
  R : Value → Option (DataW Unit × List MemPlace)
  reads : ∀ x, R (enc x) = some (dat x, [])
  inv : ∀ v z, R v = some z → ∃ x, v = enc x ∧ z = (dat x, [])
  inj : ∀ x y, dat x = dat y → x = y

def holdL : List Value → Option (DataW Unit × List MemPlace)
  | [.bool b] => some (.agg [.lit (.bool b)], [])
  | _ => none
def holdR : Value → Option (DataW Unit × List MemPlace)
  | .agg a => holdL a.toList
  | _ => none
theorem holdR_inv (v : Value) (z : DataW Unit × List MemPlace) (h : holdR v = some z) : ∃ x : Bool, v = .agg #[.bool x] ∧ z = (.agg [.lit (.bool x)], []) := by
  unfold holdR at h
  split at h
  · rename_i a
    obtain ⟨l⟩ := a
    unfold holdL at h
    split at h
    · rename_i b e
      simp only at e
      subst e
      exact ⟨b, rfl, by simpa using h.symm⟩
    · cases h
  · cases h
/-- A struct of one truth. -/
def codeH : Cde Bool := ⟨fun b => .agg #[.bool b], fun b => .agg [.lit (.bool b)], holdR, fun _ => rfl, holdR_inv, fun x y h => by simpa using h⟩
theorem unitR_inv (v : Value) (z : DataW Unit × List MemPlace) (h : unitElem v = some z) : ∃ _ : Unit, v = .agg #[] ∧ z = (.agg [], []) := by
  obtain ⟨rfl, rfl⟩ := unitElem_inv h
  exact ⟨(), rfl, rfl⟩
/-- Nothing: a set. -/
def codeU : Cde Unit := ⟨fun _ => .agg #[], fun _ => .agg [], unitElem, fun _ => unitElem_mk, unitR_inv, fun _ _ _ => rfl⟩
def mapD : Option Nat → DataW Unit
  | none => .agg []
  | some b => .lit (.int .i64 (b : Int))
def mapR : Value → Option (DataW Unit × List MemPlace)
  | .map b => some (mapD b, [])
  | _ => none
theorem mapR_inv (v : Value) (z : DataW Unit × List MemPlace) (h : mapR v = some z) : ∃ x, v = .map x ∧ z = (mapD x, []) := by
  unfold mapR at h
  split at h
  · rename_i b
    exact ⟨b, rfl, by simpa using h.symm⟩
  · cases h
theorem mapD_inj (x y : Option Nat) (h : mapD x = mapD y) : x = y := by
  cases x <;> cases y <;> simp [mapD] at h
  · rfl
  · rw [Int.ofNat_inj.1 h]
/-- A map, by its block. -/
def codeM : Cde (Option Nat) := ⟨Value.map, mapD, mapR, fun _ => rfl, mapR_inv, mapD_inj⟩

theorem text_keyed : Maps.Keyed Tryz.prog 9 := Maps.string_keyed Tryz.underlying9
theorem text_keyOf {x : List UInt8} (h : x.length ≤ 9223372036854775807) : keyOf Tryz.prog 9 (.string ⟨x.toArray⟩) = some (.string x) := by
  have := WideMaps.keyOf_string_mk (P := Tryz.prog) (k := 9) Tryz.underlying9 (s := ⟨x.toArray⟩) (by simp [ByteArray.size, maxLen]; omega)
  simpa using this
theorem turned_kept {w w' : World} {b : Nat} (h : w.mapTurned w' b) : Kept (· ≠ b) w w' := by
  have g := h.grown
  exact ⟨g.os, g.tape, g.output, g.size, fun k hk hne => g.block k hk (fun e => hne (by cases e; rfl))⟩
theorem turned_same {w w' : World} {b : Nat} (h : w.mapTurned w' b) : w'.heap.size = w.heap.size := by
  obtain ⟨es, clock, es', clock', hb, rfl⟩ := h
  simp [ChangeMaps.setBlock]
theorem strlit_ne {a b : List UInt8} (h : a ≠ b) : (Lit.string a) ≠ (Lit.string b) := by
  intro e; simp at e; exact h e

section
variable {α : Type} {C : Cde α}

/-- The datum has these elements. -/
structure Holds (C : Cde α) (D : DataW Unit) (f : List UInt8 → Option α) : Prop where
  no : ∀ x, f x = none → Maps.has D (.string x) = false
  yes : ∀ x a, f x = some a → ∀ d, D.atKey (.string x) d = C.dat a
/-- Block b is a map with these elements, at most n. -/
def Mp (C : Cde α) (w : World) (b n : Nat) (f : List UInt8 → Option α) : Prop := ∃ D : DataW Unit, w.ownsMap Tryz.prog 9 C.R b n D ∧ Holds C D f

variable {w w' : World} {b n : Nat} {mb : Option Nat} {f : List UInt8 → Option α}

theorem Mp.lt (h : Mp C w b n f) : b < w.heap.size := by obtain ⟨D, ho, _⟩ := h; exact ho.lt
theorem Mp.isMap (h : Mp C w b n f) : ∃ es clock, w.heap[b]? = some (.map es clock) := by obtain ⟨D, ⟨es, clock, hb, _⟩, _⟩ := h; exact ⟨es, clock, hb⟩
theorem Mp.kept {p : Nat → Prop} (h : Mp C w b n f) (k : Kept p w w') (hp : p b) : Mp C w' b n f := by
  have hlt := h.lt
  obtain ⟨D, ⟨es, clock, hb, r⟩, hh⟩ := h
  exact ⟨D, ⟨es, clock, (k.block b hlt hp).trans hb, r⟩, hh⟩
theorem Mp.mono {m : Nat} (h : Mp C w b n f) (hm : n ≤ m) : Mp C w b m f := by
  obtain ⟨D, ho, hh⟩ := h; exact ⟨D, ho.mono hm, hh⟩
theorem Mp.made (C : Cde α) (w : World) : Mp C (w.alloc (.map #[] 0)) w.heap.size 0 (fun _ => none) :=
  ⟨.map [], World.ownsMap_made _ _ _ _, fun _ _ => rfl, fun _ _ h => by cases h⟩
theorem Mp.congr {g : List UInt8 → Option α} (h : Mp C w b n f) (hg : ∀ x, g x = f x) : Mp C w b n g := by
  obtain rfl : g = f := funext hg
  exact h

theorem Holds.at {D : DataW Unit} (h : Holds C D f) (x : List UInt8) (z : α) : D.atKey (.string x) (C.dat z) = C.dat ((f x).getD z) ∧ Maps.has D (.string x) = (f x).isSome := by
  cases hf : f x with
  | none => exact ⟨Maps.atKey_of_not_has (h.no x hf) _, h.no x hf⟩
  | some a => exact ⟨h.yes x a hf _, Maps.has_true_of_atKey (h.yes x a hf)⟩
/-- v, ok := m[x] -/
theorem Mp.look (h : Mp C w b n f) {t e : TypeId} (ht : Tryz.prog.underlying t = some (.map 9 e)) {z : α} (hz : (zeroValue e).run Tryz.prog w = .ok (C.enc z) w) {x : List UInt8} (hx : x.length ≤ 9223372036854775807) :
    (Instr.lookup t (.map (some b)) (.string ⟨x.toArray⟩) true).run Tryz.prog w = .ok (.tuple #[C.enc ((f x).getD z), .bool (f x).isSome]) w := by
  obtain ⟨D, ho, hh⟩ := h
  obtain ⟨v, ps, hr, hv⟩ := ho.look_ok text_keyed ht hz (C.reads z) (text_keyOf hx)
  rw [(hh.at x z).2] at hr
  rw [(hh.at x z).1] at hv
  obtain ⟨y, rfl, hy⟩ := C.inv _ _ hv
  simp only [Prod.mk.injEq] at hy
  rw [← C.inj _ _ hy.1] at hr
  exact hr
/-- m[x] -/
theorem Mp.look1 (h : Mp C w b n f) {t e : TypeId} (ht : Tryz.prog.underlying t = some (.map 9 e)) {z : α} (hz : (zeroValue e).run Tryz.prog w = .ok (C.enc z) w) {x : List UInt8} (hx : x.length ≤ 9223372036854775807) :
    (Instr.lookup t (.map (some b)) (.string ⟨x.toArray⟩) false).run Tryz.prog w = .ok (C.enc ((f x).getD z)) w := by
  obtain ⟨D, ho, hh⟩ := h
  obtain ⟨v, ps, hr, hv⟩ := ho.lookup text_keyed ht hz (C.reads z) (text_keyOf hx)
  rw [(hh.at x z).1] at hv
  obtain ⟨y, rfl, hy⟩ := C.inv _ _ hv
  simp only [Prod.mk.injEq] at hy
  rw [← C.inj _ _ hy.1] at hr
  exact hr

/-- f with a at x; f without x. -/
def putM (f : List UInt8 → Option α) (x : List UInt8) (a : α) : List UInt8 → Option α := fun y => if y = x then some a else f y
def cutM (f : List UInt8 → Option α) (x : List UInt8) : List UInt8 → Option α := fun y => if y = x then none else f y

theorem Holds.put {D : DataW Unit} (hm : Maps.IsMap D) (h : Holds C D f) (x : List UInt8) (a : α) : Holds C (D.put (.string x) (C.dat a)) (putM f x a) := by
  have hk : WideAt.IsKeyLit (.string x) := trivial
  refine ⟨fun y e => ?_, fun y v e d => ?_⟩
  · unfold putM at e
    split at e
    · cases e
    · rename_i hne
      rw [Maps.has_put_other (strlit_ne hne)]
      exact h.no y e
  · unfold putM at e
    split at e
    · rename_i he
      subst he
      cases e
      exact Maps.atKey_put_same hm hk _ _
    · rename_i hne
      rw [Maps.atKey_put_other (strlit_ne hne)]
      exact h.yes y v e d
theorem Holds.cut {D : DataW Unit} (h : Holds C D f) (x : List UInt8) : Holds C (D.del (.string x)) (cutM f x) := by
  refine ⟨fun y e => ?_, fun y v e d => ?_⟩
  · unfold cutM at e
    split at e
    · rename_i he
      subst he
      exact Maps.has_del_same
    · rename_i hne
      rw [Maps.has_del_other (strlit_ne hne)]
      exact h.no y e
  · unfold cutM at e
    split at e
    · cases e
    · rename_i hne
      rw [Maps.atKey_del_other (strlit_ne hne)]
      exact h.yes y v e d
/-- m[x] = a -/
theorem Mp.store (h : Mp C w b n f) {t e : TypeId} (ht : Tryz.prog.underlying t = some (.map 9 e)) {x : List UInt8} (hx : x.length ≤ 9223372036854775807) (hn : n ≤ 1000000) (a : α) :
    ∃ w', (Instr.mapUpdate t (.map (some b)) (.string ⟨x.toArray⟩) (C.enc a)).run Tryz.prog w = .ok () w' ∧ Mp C w' b (n + 1) (putM f x a) ∧ Kept (· ≠ b) w w' ∧ w'.heap.size = w.heap.size := by
  obtain ⟨D, ho, hh⟩ := h
  obtain ⟨w', hr, h1, h2⟩ := ho.store text_keyed ht (by unfold maxLen; omega) (text_keyOf hx) (C.reads a)
  exact ⟨w', hr, ⟨_, h1, hh.put ho.isMap x a⟩, turned_kept h2, turned_same h2⟩
/-- delete(m, x) -/
theorem Mp.drop (h : Mp C w b n f) {t e : TypeId} (ht : Tryz.prog.underlying t = some (.map 9 e)) {x : List UInt8} (hx : x.length ≤ 9223372036854775807) (ty : TypeId) :
    ∃ w', (Builtin.delete_ #[t, 9] ty #[.map (some b), .string ⟨x.toArray⟩]).run Tryz.prog w = .ok (.tuple #[]) w' ∧ Mp C w' b n (cutM f x) ∧ Kept (· ≠ b) w w' ∧ w'.heap.size = w.heap.size := by
  obtain ⟨D, ho, hh⟩ := h
  obtain ⟨w', hr, h1, h2⟩ := ho.drop text_keyed ht (text_keyOf hx) ty
  exact ⟨w', hr, ⟨_, h1, hh.cut x⟩, turned_kept h2, turned_same h2⟩
/-- The keys that a map has. -/
theorem keys_of {D : DataW Unit} (ho : w.ownsMap Tryz.prog 9 C.R b n D) (hh : Holds C D f) : (strKeys D).Nodup ∧ (strKeys D).length = Maps.size D ∧ ∀ x, x ∈ strKeys D ↔ f x ≠ none := by
  obtain ⟨es, hD, hpw, _⟩ := ho.entries text_keyed
  obtain ⟨es', hD', hko⟩ := ho.keysOf
  obtain rfl : es = es' := by rw [hD] at hD'; simpa using hD'
  subst hD
  have hk : ∀ p ∈ es, ∃ x, p.1 = .string x := fun p hp => by obtain ⟨v, hv⟩ := hko p hp; obtain ⟨x, _, hx, _⟩ := Maps.keyOf_str Tryz.underlying9 hv; exact ⟨x, hx⟩
  refine ⟨?_, by simp [strKeys, Maps.size], fun x => ?_⟩
  · show (es.map fun p => strOf p.1).Nodup
    refine List.pairwise_map.2 (hpw.imp_of_mem fun {p q} hp' hq' hne e => hne ?_)
    obtain ⟨a, ha⟩ := hk p hp'
    obtain ⟨c, hc⟩ := hk q hq'
    rw [ha, hc] at e ⊢
    exact congrArg _ e
  · have e : f x ≠ none ↔ Maps.has (.map es : DataW Unit) (.string x) = true := by
      cases hf : f x with
      | none => rw [hh.no x hf]; simp
      | some a => rw [Maps.has_true_of_atKey (hh.yes x a hf)]; simp
    rw [e, Maps.has_eq, List.any_eq_true]
    show x ∈ es.map (fun p => strOf p.1) ↔ _
    rw [List.mem_map]
    constructor
    · rintro ⟨p, hp', rfl⟩
      obtain ⟨a, ha⟩ := hk p hp'
      exact ⟨p, hp', by rw [ha]; simp [Lit.sameKey, strOf]⟩
    · rintro ⟨p, hp', hs⟩
      obtain ⟨a, ha⟩ := hk p hp'
      rw [ha] at hs
      exact ⟨p, hp', by rw [ha]; simpa [Lit.sameKey, strOf] using hs⟩
/-- How many there are. -/
def Count {α : Type} (f : List UInt8 → Option α) (k : Nat) : Prop := ∃ ks : List (List UInt8), ks.Nodup ∧ ks.length = k ∧ ∀ x, x ∈ ks ↔ f x ≠ none
theorem Count.zero {k : Nat} (h : Count f k) : k = 0 ↔ ∀ x, f x = none := by
  obtain ⟨ks, hd, rfl, hm⟩ := h
  constructor
  · intro h0 x
    have : ks = [] := List.eq_nil_of_length_eq_zero h0
    subst this
    exact Classical.byContradiction fun hx => by simpa using (hm x).2 hx
  · intro h0
    cases ks with
    | nil => rfl
    | cons a l => exact absurd (h0 a) ((hm a).1 (List.mem_cons_self ..))
theorem Count.one (h : Count f 1) : ∃ x, f x ≠ none ∧ ∀ y, f y ≠ none → y = x := by
  obtain ⟨ks, hd, hl, hm⟩ := h
  obtain ⟨x, rfl⟩ := List.length_eq_one_iff.1 hl
  exact ⟨x, (hm x).1 (by simp), fun y hy => by simpa using (hm y).2 hy⟩
/-- If all that is there is at x, there is one at most. -/
theorem Count.few {k : Nat} (h : Count f k) {x : List UInt8} (hx : ∀ y, f y ≠ none → y = x) : k ≤ 1 := by
  obtain ⟨ks, hd, rfl, hm⟩ := h
  match ks with
  | [] => simp
  | [a] => simp
  | a :: a' :: l =>
    have h1 := hx a ((hm a).1 (by simp))
    have h2 := hx a' ((hm a').1 (by simp))
    subst h1
    rw [h2] at hd
    simp at hd
theorem Count.two {k : Nat} (h : Count f k) {x y : List UInt8} (hx : f x ≠ none) (hy : f y ≠ none) (hne : y ≠ x) : 2 ≤ k := by
  obtain ⟨ks, hd, rfl, hm⟩ := h
  have h1 := (hm x).2 hx
  have h2 := (hm y).2 hy
  match ks with
  | [] => simp at h1
  | [a] =>
    simp at h1 h2
    exact absurd (h2.trans h1.symm) hne
  | a :: a' :: l => simp
theorem Count.pos {k : Nat} (h : Count f k) {x : List UInt8} (hx : f x ≠ none) : 1 ≤ k := by
  obtain ⟨ks, hd, rfl, hm⟩ := h
  exact List.length_pos_of_mem ((hm x).2 hx)
theorem Count.none : Count (fun _ => none : List UInt8 → Option α) 0 := ⟨[], by simp, rfl, by simp⟩
/-- len(m) -/
theorem Mp.len (h : Mp C w b n f) {t e : TypeId} (ht : Tryz.prog.underlying t = some (.map 9 e)) :
    ∃ k, Count f k ∧ k ≤ n ∧ ∀ ty, (Builtin.len_ #[t] ty #[.map (some b)]).run Tryz.prog w = .ok (.int .i64 (k : Nat)) w := by
  obtain ⟨D, ho, hh⟩ := h
  obtain ⟨h1, h2, h3⟩ := keys_of ho hh
  exact ⟨_, ⟨_, h1, h2, h3⟩, ho.size_le, fun ty => ho.len ht ty⟩
theorem Mp.short (h : Mp C w b n f) {x : List UInt8} (hx : f x ≠ none) : x.length ≤ maxLen := by
  obtain ⟨D, ho, hh⟩ := h
  exact strKeys_le ho Tryz.underlying9 x (((keys_of ho hh).2.2 x).2 hx)

/-- A map, or nil, with these elements. -/
def Mo (C : Cde α) (w : World) (mb : Option Nat) (n : Nat) (f : List UInt8 → Option α) : Prop := (mb = none ∧ ∀ x, f x = none) ∨ ∃ b, mb = some b ∧ Mp C w b n f
theorem Mo.look (h : Mo C w mb n f) {t e : TypeId} (ht : Tryz.prog.underlying t = some (.map 9 e)) {z : α} (hz : (zeroValue e).run Tryz.prog w = .ok (C.enc z) w) {x : List UInt8} (hx : x.length ≤ 9223372036854775807) :
    (Instr.lookup t (.map mb) (.string ⟨x.toArray⟩) true).run Tryz.prog w = .ok (.tuple #[C.enc ((f x).getD z), .bool (f x).isSome]) w := by
  rcases h with ⟨rfl, h⟩ | ⟨b, rfl, h⟩
  · rw [h x]
    exact Maps.look_nil true text_keyed ht hz (text_keyOf hx)
  · exact h.look ht hz hx
theorem Mo.look1 (h : Mo C w mb n f) {t e : TypeId} (ht : Tryz.prog.underlying t = some (.map 9 e)) {z : α} (hz : (zeroValue e).run Tryz.prog w = .ok (C.enc z) w) {x : List UInt8} (hx : x.length ≤ 9223372036854775807) :
    (Instr.lookup t (.map mb) (.string ⟨x.toArray⟩) false).run Tryz.prog w = .ok (C.enc ((f x).getD z)) w := by
  rcases h with ⟨rfl, h⟩ | ⟨b, rfl, h⟩
  · rw [h x]
    exact Maps.look_nil false text_keyed ht hz (text_keyOf hx)
  · exact h.look1 ht hz hx
theorem Mo.len (h : Mo C w mb n f) {t e : TypeId} (ht : Tryz.prog.underlying t = some (.map 9 e)) :
    ∃ k, Count f k ∧ k ≤ n ∧ ∀ ty, (Builtin.len_ #[t] ty #[.map mb]).run Tryz.prog w = .ok (.int .i64 (k : Nat)) w := by
  rcases h with ⟨rfl, h⟩ | ⟨b, rfl, h⟩
  · obtain rfl : f = fun _ => none := funext h
    exact ⟨0, Count.none, Nat.zero_le _, fun ty => Maps.len_nil ht ty⟩
  · exact h.len ht
theorem Mo.kept {p : Nat → Prop} (h : Mo C w mb n f) (k : Kept p w w') (hp : ∀ b, mb = some b → p b) : Mo C w' mb n f := by
  rcases h with h | ⟨b, rfl, h⟩
  · exact .inl h
  · exact .inr ⟨b, rfl, h.kept k (hp b rfl)⟩
end

end Go.Proofs.YtenejaghgehnoaaGreatDoor

namespace Go.Proofs.YtenejaghgehnoaaGreatDoor
open Go.RowKit

/-- The bytes of s from q up to p. -/
def tex (s : List UInt8) (q p : Nat) : List UInt8 := (s.drop q).take (p - q)
theorem tex_length {s : List UInt8} {q p : Nat} (h : p ≤ s.length) : (tex s q p).length = p - q := by simp [tex]; omega
theorem tex_self (s : List UInt8) (q : Nat) : tex s q q = [] := by simp [tex]
theorem tex_all (s : List UInt8) : tex s 0 s.length = s := by simp [tex]
theorem tex_succ {s : List UInt8} {q p : Nat} (h : q ≤ p) (hp : p < s.length) : tex s q (p + 1) = tex s q p ++ [s[p]] := by
  unfold tex
  have e : p + 1 - q = (p - q) + 1 := by omega
  rw [e, List.take_succ_eq_append_getElem (by simp; omega)]
  congr 2
  rw [List.getElem_drop]
  congr 1
  omega
theorem tex_cut {s : List UInt8} {q p e : Nat} (h : q ≤ p) (hp : p ≤ e) (_ : e ≤ s.length) : tex s q e = tex s q p ++ tex s p e := by
  unfold tex
  have e1 : e - q = (p - q) + (e - p) := by omega
  rw [e1, List.take_add, List.drop_drop]
  congr 3
  omega
theorem tex_cons {s : List UInt8} {q e : Nat} (h : q < e) (he : e ≤ s.length) : tex s q e = s[q] :: tex s (q + 1) e := by
  rw [tex_cut (p := q + 1) (by omega) (by omega) he, tex_succ (Nat.le_refl q) (by omega), tex_self]
  rfl
/-- A word ahead of others, if it has a byte. -/
def flush (p : Nat) (cur : List UInt8) (ws : List (Nat × List UInt8)) : List (Nat × List UInt8) := if cur = [] then ws else (p, cur) :: ws
/-- The bytes up to the first blank, and the words behind it with their places. -/
def wdp : Nat → List UInt8 → List UInt8 × List (Nat × List UInt8)
  | _, [] => ([], [])
  | p, c :: r => if c = 32 then ([], flush (p + 1) (wdp (p + 1) r).1 (wdp (p + 1) r).2) else (c :: (wdp (p + 1) r).1, (wdp (p + 1) r).2)
/-- The words of s from p on, with their places. -/
def Wo (s : List UInt8) (p : Nat) : List (Nat × List UInt8) := flush p (wdp p (s.drop p)).1 (wdp p (s.drop p)).2

theorem Wo_end {s : List UInt8} {p : Nat} (h : s.length ≤ p) : Wo s p = [] := by
  unfold Wo
  rw [List.drop_eq_nil_of_le h]
  rfl
theorem Wo_blank {s : List UInt8} {p : Nat} (h : p < s.length) (hc : s[p] = 32) : Wo s p = Wo s (p + 1) := by
  unfold Wo
  rw [List.drop_eq_getElem_cons h, hc]
  simp [wdp, flush]
theorem wdp_word (a : List UInt8) (ha : ∀ c ∈ a, c ≠ 32) (r : List UInt8) (hr : r = [] ∨ ∃ r', r = 32 :: r') (p : Nat) : wdp p (a ++ r) = (a, (wdp (p + a.length) r).2) ∧ (wdp (p + a.length) r).1 = [] := by
  induction a generalizing p with
  | nil =>
    rcases hr with rfl | ⟨r', rfl⟩
    · exact ⟨rfl, rfl⟩
    · simp [wdp]
  | cons c a ih =>
    have hc := ha c (List.mem_cons_self ..)
    obtain ⟨h1, h2⟩ := ih (fun x hx => ha x (List.mem_cons_of_mem _ hx)) (p + 1)
    have e : p + (c :: a).length = p + 1 + a.length := by simp; omega
    rw [e]
    refine ⟨?_, h2⟩
    rw [List.cons_append]
    simp only [wdp, if_neg hc, h1]
theorem Wo_word {s : List UInt8} {q e : Nat} (h : q < e) (he : e ≤ s.length) (hn : ∀ c ∈ tex s q e, c ≠ 32) (hb : ∀ h : e < s.length, s[e] = 32) : Wo s q = (q, tex s q e) :: Wo s e := by
  have hd : s.drop q = tex s q e ++ s.drop e := by
    have e1 : s.drop e = (s.drop q).drop (e - q) := by rw [List.drop_drop]; congr 1; omega
    rw [e1, tex, List.take_append_drop]
  have hr : s.drop e = [] ∨ ∃ r', s.drop e = 32 :: r' := by
    by_cases hl : e < s.length
    · exact .inr ⟨s.drop (e + 1), by rw [List.drop_eq_getElem_cons hl, hb hl]⟩
    · exact .inl (List.drop_eq_nil_of_le (by omega))
  obtain ⟨h1, h2⟩ := wdp_word (tex s q e) hn (s.drop e) hr q
  have hl : q + (tex s q e).length = e := by rw [tex_length he]; omega
  rw [hl] at h1 h2
  have hne : tex s q e ≠ [] := by
    intro h0
    have := tex_length (q := q) he
    rw [h0] at this
    simp at this
    omega
  unfold Wo
  rw [hd, h1]
  simp only [flush, if_neg hne, h2]
  simp

/-- The same without places. -/
def fl (cur : List UInt8) (ws : List (List UInt8)) : List (List UInt8) := if cur = [] then ws else cur :: ws
def wd : List UInt8 → List UInt8 × List (List UInt8)
  | [] => ([], [])
  | c :: r => if c = 32 then ([], fl (wd r).1 (wd r).2) else (c :: (wd r).1, (wd r).2)
/-- The words of a text. -/
def tx (s : List UInt8) : List (List UInt8) := fl (wd s).1 (wd s).2
theorem flush_snd (p : Nat) (cur : List UInt8) (ws : List (Nat × List UInt8)) : (flush p cur ws).map Prod.snd = fl cur (ws.map Prod.snd) := by
  unfold flush fl
  split <;> rfl
theorem wdp_snd (s : List UInt8) (p : Nat) : (wdp p s).1 = (wd s).1 ∧ (wdp p s).2.map Prod.snd = (wd s).2 := by
  induction s generalizing p with
  | nil => exact ⟨rfl, rfl⟩
  | cons c r ih =>
    obtain ⟨h1, h2⟩ := ih (p + 1)
    unfold wdp wd
    split
    · exact ⟨rfl, by rw [flush_snd, h1, h2]⟩
    · exact ⟨by rw [h1], h2⟩
theorem Wo_tx (s : List UInt8) : (Wo s 0).map Prod.snd = tx s := by
  unfold Wo tx
  rw [List.drop_zero, flush_snd, (wdp_snd s 0).1, (wdp_snd s 0).2]
/-- Kinds of bytes. -/
def isL (c : UInt8) : Bool := decide (97 ≤ c.toNat) && decide (c.toNat ≤ 122)
def isD (c : UInt8) : Bool := decide (48 ≤ c.toNat) && decide (c.toNat ≤ 57)
theorem isL_not {c : UInt8} (h : isL c = true) : isD c = false ∧ c ≠ 32 ∧ c ≠ 45 := by
  simp only [isL, Bool.and_eq_true, decide_eq_true_eq] at h
  refine ⟨?_, ?_, ?_⟩
  · simp [isD]; omega
  · rintro rfl; revert h; decide
  · rintro rfl; revert h; decide
/-- Which operation a word is; nought: none. -/
def opOf (x : List UInt8) : Nat :=
  if x = [110, 111, 116] then 4 else if x = [97, 110, 100] then 5 else if x = [111, 114] then 6 else if x = [108, 116] then 7 else if x = [101, 113] then 8 else if x = [97, 100, 100] then 9 else if x = [115, 117, 98] then 10 else 0
/-- A word of types. -/
def isT (x : List UInt8) : Bool := decide (x = [116, 121, 112, 101]) || decide (x = [97, 116, 116, 114]) || decide (x = [115, 116, 97, 103, 101]) || decide (x = [109, 97, 114, 107])
def isName (x : List UInt8) : Bool := x.all isL && decide (1 ≤ x.length) && decide (x.length ≤ 12) && decide (opOf x = 0) && !isT x
/-- What stands behind a minus, if there is one. -/
def mag (x : List UInt8) : List UInt8 := if x.head? = some 45 then x.tail else x
def digs (x : List UInt8) : Nat := x.foldl (fun n c => 10 * n + (c.toNat - 48)) 0
def isNum (x : List UInt8) : Bool := (mag x).all isD && decide (1 ≤ (mag x).length) && decide ((mag x).length ≤ 4)
def num (x : List UInt8) : Int := if x.head? = some 45 then -(digs (mag x) : Int) else (digs (mag x) : Int)
/-- Which kind of word: 1 none, 2 a number, 3 a name, else an operation. -/
def kd (x : List UInt8) : Nat := if isNum x = true then 2 else if opOf x ≠ 0 then opOf x else if isName x = true then 3 else 1
/-- Of how many guards. -/
def ar (k : Nat) : Nat := if k = 4 then 1 else if 5 ≤ k then 2 else 0

theorem opOf_cases (x : List UInt8) : opOf x = 0 ∨ (4 ≤ opOf x ∧ opOf x ≤ 10 ∧ x.all isL = true ∧ x ≠ []) := by
  unfold opOf
  repeat' split
  all_goals first
    | (left; rfl)
    | (right; subst_vars; decide)
theorem kd_cases (x : List UInt8) : 1 ≤ kd x ∧ kd x ≤ 10 := by
  unfold kd
  have := opOf_cases x
  repeat' split
  all_goals omega
/-- Small letters are no number. -/
theorem letters_num {x : List UInt8} (h : x.all isL = true) (h0 : x ≠ []) : isNum x = false := by
  cases x with
  | nil => exact absurd rfl h0
  | cons c r =>
    rw [List.all_cons, Bool.and_eq_true] at h
    obtain ⟨h1, h2, h3⟩ := isL_not h.1
    have e : mag (c :: r) = c :: r := by simp [mag, h3]
    unfold isNum
    rw [e, List.all_cons, h1]
    rfl
theorem isName_all {x : List UInt8} (h : isName x = true) : x.all isL = true ∧ 1 ≤ x.length ∧ x.length ≤ 12 ∧ opOf x = 0 ∧ isT x = false := by
  simp only [isName, Bool.and_eq_true, decide_eq_true_eq, Bool.not_eq_true'] at h
  exact ⟨h.1.1.1.1, h.1.1.1.2, h.1.1.2, h.1.2, h.2⟩
theorem kd_name (x : List UInt8) : kd x = 3 ↔ isName x = true := by
  constructor
  · intro h
    unfold kd at h
    split at h
    · cases h
    · split at h
      · have := opOf_cases x; omega
      · split at h
        · assumption
        · cases h
  · intro h
    obtain ⟨h1, h2, _, h3, _⟩ := isName_all h
    have h4 := letters_num h1 (by rintro rfl; simp at h2)
    simp [kd, h3, h4, h]
theorem kd_num (x : List UInt8) : kd x = 2 ↔ isNum x = true := by
  constructor
  · intro h
    unfold kd at h
    split at h
    · assumption
    · split at h
      · have := opOf_cases x; omega
      · split at h <;> cases h
  · intro h
    simp [kd, h]
theorem kd_op (x : List UInt8) (h : 4 ≤ kd x) : opOf x = kd x := by
  unfold kd at h ⊢
  repeat' split
  all_goals first | rfl | simp_all
theorem op_kd (x : List UInt8) (h : opOf x ≠ 0) : kd x = opOf x := by
  have h1 := opOf_cases x
  have h2 := letters_num (x := x) (by rcases h1 with h1 | h1; exact absurd h1 h; exact h1.2.2.1) (by rcases h1 with h1 | h1; exact absurd h1 h; exact h1.2.2.2)
  simp [kd, h2, h]
end Go.Proofs.YtenejaghgehnoaaGreatDoor

namespace Go.Proofs.YtenejaghgehnoaaGreatDoor
open Go.RowKit

/-- By a goto: what is asked at its label. -/
def Exit.jumps (J : Nat → Act → World → Prop) (Q : Exit → Act → World → Prop) : Exit → Act → World → Prop
  | .goto l, a, w => J l a w
  | e, a, w => Q e a w
/-- The way from a label on. -/
def From (P : Program) (c : Code) (Q : Exit → Act → World → Prop) (l : Nat) (a : Act) (w : World) : Prop := ∃ rest, findLabel c l = some (Code.skip.seq rest) ∧ rest.wp P Q a w
theorem From.use {P : Program} {c rest : Code} {Q : Exit → Act → World → Prop} {l : Nat} {a : Act} {w : World} (h : From P c Q l a w) (hf : findLabel c l = some (Code.skip.seq rest)) : rest.wp P Q a w := by
  obtain ⟨r, hr, hw⟩ := h
  rw [hf] at hr
  cases hr
  exact hw
theorem Exit.jumps_mono {J K : Nat → Act → World → Prop} {Q : Exit → Act → World → Prop} (h : ∀ l a w, J l a w → K l a w) (e : Exit) (a : Act) (w : World) (hq : Exit.jumps J Q e a w) : Exit.jumps K Q e a w := by
  cases e <;> first | exact hq | exact h _ _ _ hq
/-- A scope of many labels: the way from each label on is walked once; who comes to another label, by a goto or by falling on it, shows what holds there, with a smaller measure. -/
theorem wp_scope_all {P : Program} {a : Act} {w : World} {Q : Exit → Act → World → Prop} {c : Code} (J : Nat → Nat → Act → World → Prop)
    (pass : ∀ m l a w, J m l a w → (∀ m' l' a' w', m' < m → J m' l' a' w' → From P c (Exit.jumps (fun l'' a'' w'' => ∃ m'', m'' < m ∧ J m'' l'' a'' w'') Q) l' a' w') → From P c (Exit.jumps (fun l' a' w' => ∃ m', m' < m ∧ J m' l' a' w') Q) l a w)
    (first : (∀ m l a w, J m l a w → From P c (Exit.jumps (fun l' a' w' => ∃ m', J m' l' a' w') Q) l a w) → c.wp P (Exit.jumps (fun l' a' w' => ∃ m', J m' l' a' w') Q) a w) : (Code.scope c).wp P Q a w := by
  have all : ∀ m l a w, J m l a w → From P c (Exit.jumps (fun l' a' w' => ∃ m', m' < m ∧ J m' l' a' w') Q) l a w := by
    intro m
    induction m using Nat.strongRecOn with
    | _ m ih =>
      intro l a w hJ
      refine pass m l a w hJ fun m' l' a' w' hm hJ' => ?_
      obtain ⟨r, hr, hw⟩ := ih m' hm l' a' w' hJ'
      exact ⟨r, hr, wp_mono hw (Exit.jumps_mono fun _ _ _ ⟨m'', h1, h2⟩ => ⟨m'', by omega, h2⟩)⟩
  intro b k cs
  have key : ∀ m l a w, J m l a w → ∃ rest, findLabel c l = some rest ∧ ∃ e a' w', Q e a' w' ∧ Arrives P (lone (b.at a (.code rest :: .inScope c :: k)) cs w) b k cs e a' w' := by
    intro m
    induction m using Nat.strongRecOn with
    | _ m ih =>
      intro l a w hJ
      obtain ⟨r, hr, hw⟩ := all m l a w hJ
      refine ⟨_, hr, ?_⟩
      obtain ⟨e, a₁, w₁, hq, harr⟩ := (wp_seq (wp_skip hw) : (Code.skip.seq r).wp P _ a w) b (.inScope c :: k) cs
      cases e with
      | normal => exact ⟨.normal, a₁, w₁, hq, Steps.trans harr (.one step_inScope)⟩
      | exit id => exact ⟨.exit id, a₁, w₁, hq, fun k' hk => harr k' (by simp [exitTo, hk])⟩
      | goto l' =>
        obtain ⟨m', hm, hJ'⟩ := hq
        obtain ⟨r', hr', e₂, a₂, w₂, hq₂, harr₂⟩ := ih m' hm l' a₁ w₁ hJ'
        have hg : gotoIn l' (.inScope c :: k) = some (.code r' :: .inScope c :: k) := by simp [gotoIn, hr']
        exact ⟨e₂, a₂, w₂, hq₂, .of_steps (harr _ hg) harr₂⟩
      | ret => exact ⟨_, a₁, w₁, hq, harr⟩
      | panic ch => exact ⟨_, a₁, w₁, hq, harr⟩
      | outgrown => exact ⟨_, a₁, w₁, hq, harr⟩
  have weak : ∀ m l a w, J m l a w → From P c (Exit.jumps (fun l' a' w' => ∃ m', J m' l' a' w') Q) l a w := by
    intro m l a w hJ
    obtain ⟨r, hr, hw⟩ := all m l a w hJ
    exact ⟨r, hr, wp_mono hw (Exit.jumps_mono fun _ _ _ ⟨m'', _, h2⟩ => ⟨m'', h2⟩)⟩
  obtain ⟨e, a₁, w₁, hq, harr⟩ := first weak b (.inScope c :: k) cs
  cases e with
  | normal => exact ⟨.normal, a₁, w₁, hq, .head step_scope (Steps.trans harr (.one step_inScope))⟩
  | exit id => exact ⟨.exit id, a₁, w₁, hq, fun k' hk => .head step_scope (harr k' (by simp [exitTo, hk]))⟩
  | goto l' =>
    obtain ⟨m', hJ'⟩ := hq
    obtain ⟨r', hr', e₂, a₂, w₂, hq₂, harr₂⟩ := key m' l' a₁ w₁ hJ'
    have hg : gotoIn l' (.inScope c :: k) = some (.code r' :: .inScope c :: k) := by simp [gotoIn, hr']
    exact ⟨e₂, a₂, w₂, hq₂, .of_steps (.head step_scope (harr _ hg)) harr₂⟩
  | ret => exact ⟨_, a₁, w₁, hq, .of_steps (.one step_scope) harr⟩
  | panic ch => exact ⟨_, a₁, w₁, hq, .of_steps (.one step_scope) harr⟩
  | outgrown => exact ⟨_, a₁, w₁, hq, .of_steps (.one step_scope) harr⟩

set_option maxHeartbeats 400000 in
theorem isLetter_any {w : World} (c : UInt8) :
    Calls Tryz.prog 190 #[.int .u8 (c.toNat : Nat)] w fun e w' => e = .returned (.bool (isL c)) ∧ w' = w := by
  unfold isL
  by_cases h1 : 97 ≤ c.toNat
  · have g1 : (97 : Int) ≤ (c.toNat : Int) := by omega
    by_cases h2 : c.toNat ≤ 122
    · have g2 : (c.toNat : Int) ≤ 122 := by omega
      rw [decide_eq_true h1, decide_eq_true h2]
      go_enter Tryz.func190, Tryz.ntmps190
      go_wp2
      go_ret
      exact ⟨rfl, rfl⟩
    · have g2 : ¬ (c.toNat : Int) ≤ 122 := by omega
      rw [decide_eq_true h1, decide_eq_false h2]
      go_enter Tryz.func190, Tryz.ntmps190
      go_wp2
      go_ret
      exact ⟨rfl, rfl⟩
  · have g1 : ¬ (97 : Int) ≤ (c.toNat : Int) := by omega
    rw [decide_eq_false h1, Bool.false_and]
    go_enter Tryz.func190, Tryz.ntmps190
    go_wp2
    go_ret
    exact ⟨rfl, rfl⟩

set_option maxHeartbeats 400000 in
theorem isDigit_any {w : World} (c : UInt8) :
    Calls Tryz.prog 191 #[.int .u8 (c.toNat : Nat)] w fun e w' => e = .returned (.bool (isD c)) ∧ w' = w := by
  unfold isD
  by_cases h1 : 48 ≤ c.toNat
  · have g1 : (48 : Int) ≤ (c.toNat : Int) := by omega
    by_cases h2 : c.toNat ≤ 57
    · have g2 : (c.toNat : Int) ≤ 57 := by omega
      rw [decide_eq_true h1, decide_eq_true h2]
      go_enter Tryz.func191, Tryz.ntmps191
      go_wp2
      go_ret
      exact ⟨rfl, rfl⟩
    · have g2 : ¬ (c.toNat : Int) ≤ 57 := by omega
      rw [decide_eq_true h1, decide_eq_false h2]
      go_enter Tryz.func191, Tryz.ntmps191
      go_wp2
      go_ret
      exact ⟨rfl, rfl⟩
  · have g1 : ¬ (48 : Int) ≤ (c.toNat : Int) := by omega
    rw [decide_eq_false h1, Bool.false_and]
    go_enter Tryz.func191, Tryz.ntmps191
    go_wp2
    go_ret
    exact ⟨rfl, rfl⟩

/-- Each word that Go's text spells out, and all others. -/
def spellings : List (List UInt8) := [[110, 111, 116], [97, 110, 100], [111, 114], [108, 116], [101, 113], [97, 100, 100], [115, 117, 98], [116, 121, 112, 101], [97, 116, 116, 114], [115, 116, 97, 103, 101], [109, 97, 114, 107]]

set_option maxHeartbeats 1000000 in
theorem spelt_known {w : World} (x : List UInt8) (h : x ∈ spellings) :
    Calls Tryz.prog 192 #[.string ⟨x.toArray⟩] w fun e w' => e = .returned (.int .i64 (kd x : Nat)) ∧ w' = w := by
  simp only [spellings, List.mem_cons, List.not_mem_nil, or_false] at h
  rcases h with rfl | rfl | rfl | rfl | rfl | rfl | rfl | rfl | rfl | rfl | rfl
  all_goals
    go_enter Tryz.func192, Tryz.ntmps192
    go_wp2
    go_ret
    exact ⟨rfl, rfl⟩

theorem kd_letters {x : List UInt8} (h : x.all isL = true) (h0 : x ≠ []) (hx : x ∉ spellings) : kd x = if x.length ≤ 12 then 3 else 1 := by
  have h1 : opOf x = 0 := by
    simp only [spellings, List.mem_cons, List.not_mem_nil, or_false, not_or] at hx
    simp [opOf, hx]
  have h2 : isT x = false := by
    simp only [spellings, List.mem_cons, List.not_mem_nil, or_false, not_or] at hx
    simp [isT, hx]
  have h3 := letters_num h h0
  have h4 : 1 ≤ x.length := by
    cases x with
    | nil => exact absurd rfl h0
    | cons c r => simp
  simp [kd, h1, h3, isName, h, h2, h4]

set_option maxHeartbeats 1000000 in
theorem spelt_any {w : World} (x : List UInt8) (h : x.all isL = true) (h0 : x ≠ []) :
    Calls Tryz.prog 192 #[.string ⟨x.toArray⟩] w fun e w' => e = .returned (.int .i64 (kd x : Nat)) ∧ w' = w := by
  by_cases hx : x ∈ spellings
  · exact spelt_known x hx
  · rw [kd_letters h h0 hx]
    simp only [spellings, List.mem_cons, List.not_mem_nil, or_false, not_or] at hx
    obtain ⟨n1, n2, n3, n4, n5, n6, n7, n8, n9, n10, n11⟩ := hx
    replace n1 := beq_eq_false_iff_ne.2 n1
    replace n2 := beq_eq_false_iff_ne.2 n2
    replace n3 := beq_eq_false_iff_ne.2 n3
    replace n4 := beq_eq_false_iff_ne.2 n4
    replace n5 := beq_eq_false_iff_ne.2 n5
    replace n6 := beq_eq_false_iff_ne.2 n6
    replace n7 := beq_eq_false_iff_ne.2 n7
    replace n8 := beq_eq_false_iff_ne.2 n8
    replace n9 := beq_eq_false_iff_ne.2 n9
    replace n10 := beq_eq_false_iff_ne.2 n10
    replace n11 := beq_eq_false_iff_ne.2 n11
    clear h h0
    by_cases hl : x.length ≤ 12
    · have hl' : ¬ (12 : Int) < (x.length : Int) := by omega
      rw [if_pos hl]
      go_enter Tryz.func192, Tryz.ntmps192
      go_wp2
      go_ret
      exact ⟨rfl, rfl⟩
    · have hl' : (12 : Int) < (x.length : Int) := by omega
      rw [if_neg hl]
      go_enter Tryz.func192, Tryz.ntmps192
      go_wp2
      go_ret
      exact ⟨rfl, rfl⟩

set_option maxHeartbeats 1000000 in
theorem parts_any {w : World} (k : Nat) (h : k ≤ 10) :
    Calls Tryz.prog 222 #[.int .i64 (k : Nat)] w fun e w' => e = .returned (.int .i64 (ar k : Nat)) ∧ w' = w := by
  have hk : k = 0 ∨ k = 1 ∨ k = 2 ∨ k = 3 ∨ k = 4 ∨ k = 5 ∨ k = 6 ∨ k = 7 ∨ k = 8 ∨ k = 9 ∨ k = 10 := by omega
  rcases hk with rfl | rfl | rfl | rfl | rfl | rfl | rfl | rfl | rfl | rfl | rfl
  all_goals
    go_enter Tryz.func222, Tryz.ntmps222
    go_wp2
    go_ret
    exact ⟨rfl, rfl⟩

/-- 1 or 0. -/
def tr (b : Bool) : Int := if b = true then 1 else 0
set_option maxHeartbeats 400000 in
theorem truth_any {w : World} (b : Bool) :
    Calls Tryz.prog 257 #[.bool b] w fun e w' => e = .returned (.int .i64 (tr b)) ∧ w' = w := by
  cases b
  all_goals
    go_enter Tryz.func257, Tryz.ntmps257
    go_wp2
    go_ret
    exact ⟨rfl, rfl⟩

end Go.Proofs.YtenejaghgehnoaaGreatDoor

namespace Go.Proofs.YtenejaghgehnoaaGreatDoor
open Go.RowKit

/-- What is wrong with a word of kind k. -/
def rfk (ns : List (List UInt8)) (k : Nat) (x : List UInt8) : Nat := if k = 0 then 10 else if k = 1 then 12 else if k = 3 ∧ x ∉ ns then 20 else 0
def rf (ns : List (List UInt8)) (x : List UInt8) : Nat := rfk ns (kd x) x
theorem rf_cases (ns : List (List UInt8)) (x : List UInt8) : (kd x = 1 ∧ rf ns x = 12) ∨ (kd x = 3 ∧ x ∉ ns ∧ rf ns x = 20) ∨ (kd x ≠ 1 ∧ (kd x = 3 → x ∈ ns) ∧ rf ns x = 0) := by
  have h := kd_cases x
  unfold rf rfk
  rw [if_neg (by omega)]
  by_cases h1 : kd x = 1
  · exact .inl ⟨h1, if_pos h1⟩
  · rw [if_neg h1]
    by_cases h3 : kd x = 3 ∧ x ∉ ns
    · exact .inr (.inl ⟨h3.1, h3.2, if_pos h3⟩)
    · exact .inr (.inr ⟨h1, fun h => Classical.byContradiction fun hx => h3 ⟨h, hx⟩, if_neg h3⟩)

/-- So many guards, one behind the other. -/
def times {α β : Type} (g : List α → β ⊕ List α) : Nat → List α → β ⊕ List α
  | 0, ws => .inr ws
  | k + 1, ws => match g ws with
    | .inl e => .inl e
    | .inr r => times g k r
/-- One guard, within so many operations; L: where the text ends. -/
def lk (ns : List (List UInt8)) (L : Nat) : Nat → List (Nat × List UInt8) → (Nat × Nat) ⊕ List (Nat × List UInt8)
  | 0, ws => match ws with
    | [] => .inl (10, L)
    | (p, x) :: _ => .inl (if rf ns x ≠ 0 then rf ns x else 22, p)
  | f + 1, ws => match ws with
    | [] => .inl (10, L)
    | (p, x) :: r => if rf ns x ≠ 0 then .inl (rf ns x, p) else times (lk ns L f) (ar (kd x)) r
/-- What stands behind a whole guard. -/
def tailOf (ns : List (List UInt8)) : List (Nat × List UInt8) → Nat × Nat
  | [] => (0, 0)
  | (p, x) :: _ => (if rf ns x ≠ 0 then rf ns x else 11, p)
/-- Check. -/
def chkW (ns : List (List UInt8)) (L : Nat) (ws : List (Nat × List UInt8)) : Nat × Nat := match lk ns L 17 ws with
  | .inl e => e
  | .inr r => tailOf ns r
def chk (ns : List (List UInt8)) (s : List UInt8) : Nat × Nat := if 120 < s.length then (3, 0) else chkW ns s.length (Wo s 0)

/-- An operation of two. -/
def jn (k : Nat) (a b : Int) : Int :=
  if k = 5 then tr (decide (a ≠ 0 ∧ b ≠ 0)) else if k = 6 then tr (decide (a ≠ 0 ∨ b ≠ 0)) else if k = 7 then tr (decide (a < b)) else if k = 8 then tr (decide (a = b)) else if k = 9 then wrap64 (a + b) else wrap64 (a - b)
/-- What a guard is worth, and what stands behind it. -/
def vl (g : List UInt8 → Int) : Nat → List (List UInt8) → Int × List (List UInt8)
  | 0, xs => (0, xs)
  | f + 1, xs => match xs with
    | [] => (0, [])
    | x :: r => if kd x = 2 then (num x, r) else if kd x = 3 then (g x, r) else
      if kd x = 4 then (tr (decide ((vl g f r).1 = 0)), (vl g f r).2) else (jn (kd x) (vl g f r).1 (vl g f (vl g f r).2).1, (vl g f (vl g f r).2).2)
/-- A guard without places: what stands behind it, if it is whole. -/
def gd (ns : List (List UInt8)) : Nat → List (List UInt8) → Unit ⊕ List (List UInt8)
  | 0, _ => .inl ()
  | f + 1, xs => match xs with
    | [] => .inl ()
    | x :: r => if rf ns x ≠ 0 then .inl () else times (gd ns f) (ar (kd x)) r

theorem lk_gd (ns : List (List UInt8)) (L : Nat) (f : Nat) (ws : List (Nat × List UInt8)) :
    (∀ e, lk ns L f ws = .inl e → gd ns f (ws.map Prod.snd) = .inl ()) ∧ (∀ r, lk ns L f ws = .inr r → gd ns f (ws.map Prod.snd) = .inr (r.map Prod.snd)) := by
  induction f generalizing ws with
  | zero =>
    refine ⟨fun _ _ => rfl, fun r h => ?_⟩
    cases ws with
    | nil => cases h
    | cons p ws => cases h
  | succ f ih =>
    have ht : ∀ k ws, (∀ e, times (lk ns L f) k ws = .inl e → times (gd ns f) k (ws.map Prod.snd) = .inl ()) ∧ (∀ r, times (lk ns L f) k ws = .inr r → times (gd ns f) k (ws.map Prod.snd) = .inr (r.map Prod.snd)) := by
      intro k
      induction k with
      | zero =>
        intro ws
        refine ⟨fun _ h => by simp [times] at h, fun r h => ?_⟩
        simp only [times, Sum.inr.injEq] at h
        subst h
        rfl
      | succ k ihk =>
        intro ws
        cases hw : lk ns L f ws with
        | inl e =>
          have := (ih ws).1 e hw
          refine ⟨fun _ _ => by simp only [times, this], fun r h => by simp only [times, hw] at h; cases h⟩
        | inr r =>
          have := (ih ws).2 r hw
          simp only [times, hw, this]
          exact ihk r
    cases ws with
    | nil => exact ⟨fun _ _ => rfl, fun r h => by cases h⟩
    | cons p ws =>
      obtain ⟨p, x⟩ := p
      simp only [lk, gd, List.map_cons]
      by_cases h : rf ns x ≠ 0
      · rw [if_pos h, if_pos h]
        exact ⟨fun _ _ => rfl, fun r h => by cases h⟩
      · simp only [if_neg h]
        exact ht _ _

/-- What is worth something is what is whole. -/
theorem gd_vl (ns : List (List UInt8)) (g : List UInt8 → Int) (f : Nat) (xs r : List (List UInt8)) (h : gd ns f xs = .inr r) : (vl g f xs).2 = r := by
  induction f generalizing xs r with
  | zero => cases h
  | succ f ih =>
    cases xs with
    | nil => cases h
    | cons x xs =>
      simp only [gd] at h
      by_cases hr : rf ns x ≠ 0
      · rw [if_pos hr] at h; cases h
      · rw [if_neg hr] at h
        have hk := kd_cases x
        have h1 : kd x ≠ 1 := by
          rcases rf_cases ns x with ⟨_, h1⟩ | ⟨_, _, h1⟩ | ⟨h1, _⟩
          · omega
          · omega
          · exact h1
        simp only [vl]
        by_cases h2 : kd x = 2
        · rw [if_pos h2]
          rw [h2] at h
          simpa [ar, times] using h
        · rw [if_neg h2]
          by_cases h3 : kd x = 3
          · rw [if_pos h3]
            rw [h3] at h
            simpa [ar, times] using h
          · rw [if_neg h3]
            by_cases h4 : kd x = 4
            · rw [if_pos h4]
              rw [h4] at h
              simp only [ar, times, if_true] at h
              cases hg : gd ns f xs with
              | inl e => rw [hg] at h; cases h
              | inr r1 =>
                rw [hg] at h
                simp only [Sum.inr.injEq] at h
                rw [← h]
                exact ih xs r1 hg
            · rw [if_neg h4]
              have ha : ar (kd x) = 2 := by unfold ar; rw [if_neg h4, if_pos (by omega)]
              rw [ha] at h
              simp only [times] at h
              cases hg : gd ns f xs with
              | inl e => rw [hg] at h; cases h
              | inr r1 =>
                rw [hg] at h
                simp only at h
                have e1 := ih xs r1 hg
                cases hg2 : gd ns f r1 with
                | inl e => rw [hg2] at h; cases h
                | inr r2 =>
                  rw [hg2] at h
                  simp only [Sum.inr.injEq] at h
                  rw [e1, ← h]
                  exact ih r1 r2 hg2

/-- The document's Check: the row of what each open operation still wants, the innermost first. -/
def rowRun (ns : List (List UInt8)) (L : Nat) : List Nat → List (Nat × List UInt8) → Nat × Nat
  | left, [] => if left.any (fun n => decide (0 < n)) = true then (10, L) else (0, 0)
  | left, (p, x) :: r =>
    if rf ns x ≠ 0 then (rf ns x, p) else
      if 17 < (left.dropWhile (fun n => n == 0)).length then (22, p) else
        match left.dropWhile (fun n => n == 0) with
        | [] => (11, p)
        | n :: t => if 0 < ar (kd x) then rowRun ns L (ar (kd x) :: (n - 1) :: t) r else rowRun ns L ((n - 1) :: t) r
theorem row_nought (ns : List (List UInt8)) (L : Nat) (S : List Nat) (ws : List (Nat × List UInt8)) : rowRun ns L (0 :: S) ws = rowRun ns L S ws := by
  cases ws with
  | nil => simp [rowRun]
  | cons p ws => simp [rowRun]
/-- One guard of it. -/
theorem row_one (ns : List (List UInt8)) (L : Nat) (f : Nat) (S : List Nat) (hf : S.length + f = 17) (k : Nat) (ws : List (Nat × List UInt8)) :
    rowRun ns L ((k + 1) :: S) ws = match lk ns L f ws with
      | .inl e => e
      | .inr r => rowRun ns L (k :: S) r := by
  induction f generalizing S k ws with
  | zero =>
    cases ws with
    | nil => simp [rowRun, lk]
    | cons p ws =>
      obtain ⟨p, x⟩ := p
      simp only [rowRun, lk]
      by_cases h : rf ns x ≠ 0
      · simp [h]
      · have e : ((k + 1) :: S).dropWhile (fun n => n == 0) = (k + 1) :: S := by simp
        rw [if_neg h, if_neg h, e, if_pos (by simp; omega)]
  | succ f ih =>
    cases ws with
    | nil => simp [rowRun, lk]
    | cons p ws =>
      obtain ⟨p, x⟩ := p
      have e : ((k + 1) :: S).dropWhile (fun n => n == 0) = (k + 1) :: S := by simp
      simp only [rowRun, lk]
      by_cases h : rf ns x ≠ 0
      · simp [h]
      · rw [if_neg h, if_neg h, e, if_neg (by simp; omega)]
        simp only [Nat.add_sub_cancel]
        have hn : ∀ n ws, rowRun ns L (n :: k :: S) ws = match times (lk ns L f) n ws with
            | .inl e => e
            | .inr r => rowRun ns L (k :: S) r := by
          intro n
          induction n with
          | zero => intro ws; rw [row_nought]; rfl
          | succ n ihn =>
            intro ws
            rw [ih (k :: S) (by simp; omega) n ws]
            simp only [times]
            cases hw : lk ns L f ws with
            | inl e => rfl
            | inr r => exact ihn r
        by_cases ha : 0 < ar (kd x)
        · rw [if_pos ha, hn]
        · have h0 : ar (kd x) = 0 := by omega
          rw [if_neg ha, h0]
          rfl
theorem row_chk (ns : List (List UInt8)) (L : Nat) (ws : List (Nat × List UInt8)) : rowRun ns L [1] ws = chkW ns L ws := by
  rw [row_one ns L 17 [] rfl 0 ws]
  unfold chkW
  cases lk ns L 17 ws with
  | inl e => rfl
  | inr r =>
    show rowRun ns L [0] r = tailOf ns r
    rw [row_nought]
    cases r with
    | nil => rfl
    | cons p r =>
      obtain ⟨p, x⟩ := p
      simp only [rowRun, tailOf]
      split <;> rfl

end Go.Proofs.YtenejaghgehnoaaGreatDoor

namespace Go.Proofs.YtenejaghgehnoaaGreatDoor
open Go.RowKit

/-- An attribute, a stage or mark, a type. -/
structure At where
  name : List UInt8
  start : Int
  lo : Int
  hi : Int
structure Ru where
  name : List UInt8
  guard : List UInt8
structure Ty where
  name : List UInt8
  attrs : List At
  stages : List Ru
  marks : List Ru
def Ty.none : Ty := ⟨[], [], [], []⟩

def ranged (a : At) : Bool := decide (-1000 ≤ a.lo) && decide (a.lo ≤ a.start) && decide (a.start ≤ a.hi) && decide (a.hi ≤ 1000)
def nms (t : Ty) : List (List UInt8) := t.attrs.map At.name ++ t.stages.map Ru.name ++ t.marks.map Ru.name
/-- What is wrong with the names that come, behind those that are had. -/
def rns : List At → List (List UInt8) → List (List UInt8) → Nat
  | _, _, [] => 0
  | ats, had, n :: r => if isName n = false then 20 else if n ∈ had then 21 else if ats.head?.any (fun a => !ranged a) = true then 23 else rns ats.tail (had ++ [n]) r
/-- What is wrong with the guards. -/
def rgs (ns : List (List UInt8)) : List Ru → Nat
  | [] => 0
  | r :: l => if (chk ns r.guard).1 ≠ 0 then (chk ns r.guard).1 else rgs ns l
def right (t : Ty) : Nat :=
  if isName t.name = false then 20 else if 6 < t.attrs.length ∨ 6 < t.stages.length ∨ 6 < t.marks.length then 4
  else if rns t.attrs [] (nms t) ≠ 0 then rns t.attrs [] (nms t) else rgs (nms t) (t.stages ++ t.marks)

/-- What a part says, behind its semicolon. -/
def pA (a : At) : List UInt8 := [32, 97, 116, 116, 114, 32] ++ a.name ++ [32] ++ Lib.itoa a.start ++ [32] ++ Lib.itoa a.lo ++ [32] ++ Lib.itoa a.hi
def pS (r : Ru) : List UInt8 := [32, 115, 116, 97, 103, 101, 32] ++ r.name ++ [32] ++ r.guard
def pM (r : Ru) : List UInt8 := [32, 109, 97, 114, 107, 32] ++ r.name ++ [32] ++ r.guard
def pT (n : List UInt8) : List UInt8 := [116, 121, 112, 101, 32] ++ n
def semi (p : List UInt8) : List UInt8 := 59 :: p
def write (t : Ty) : List UInt8 := pT t.name ++ (t.attrs.flatMap (fun a => semi (pA a)) ++ t.stages.flatMap (fun a => semi (pS a)) ++ t.marks.flatMap (fun a => semi (pM a)))

theorem right_few {t : Ty} (h : right t = 0) : isName t.name = true ∧ t.attrs.length ≤ 6 ∧ t.stages.length ≤ 6 ∧ t.marks.length ≤ 6 ∧ rns t.attrs [] (nms t) = 0 ∧ rgs (nms t) (t.stages ++ t.marks) = 0 := by
  unfold right at h
  by_cases h1 : isName t.name = false
  · rw [if_pos h1] at h; cases h
  · rw [if_neg h1] at h
    by_cases h2 : 6 < t.attrs.length ∨ 6 < t.stages.length ∨ 6 < t.marks.length
    · rw [if_pos h2] at h; cases h
    · rw [if_neg h2] at h
      by_cases h3 : rns t.attrs [] (nms t) ≠ 0
      · rw [if_pos h3] at h; exact absurd h h3
      · rw [if_neg h3] at h
        exact ⟨by simpa using h1, by omega, by omega, by omega, by omega, h⟩
end Go.Proofs.YtenejaghgehnoaaGreatDoor

namespace Go.Proofs.YtenejaghgehnoaaGreatDoor
open Go.RowKit

/-- The first word from p on lies from q up to e. -/
structure At1 (s : List UInt8) (p q e : Nat) : Prop where
  ahead : p ≤ q
  some : q < e
  within : e ≤ s.length
  whole : ∀ c ∈ tex s q e, c ≠ 32
  ends : ∀ h : e < s.length, s[e] = 32
  words : Wo s p = (q, tex s q e) :: Wo s e

theorem word_end (s : List UInt8) (q : Nat) (hq : q ≤ s.length) : ∃ e, q ≤ e ∧ e ≤ s.length ∧ (∀ c ∈ tex s q e, c ≠ 32) ∧ ∀ h : e < s.length, s[e] = 32 := by
  obtain ⟨k, hk⟩ : ∃ k, s.length - q = k := ⟨_, rfl⟩
  induction k generalizing q with
  | zero => exact ⟨q, Nat.le_refl _, hq, by simp [tex_self], fun h => by omega⟩
  | succ k ih =>
    by_cases hc : s[q]'(by omega) = 32
    · exact ⟨q, Nat.le_refl _, hq, by simp [tex_self], fun _ => hc⟩
    · obtain ⟨e, h1, h2, h3, h4⟩ := ih (q + 1) (by omega) (by omega)
      refine ⟨e, by omega, h2, ?_, h4⟩
      rw [tex_cons (by omega) h2]
      intro c hm
      rcases List.mem_cons.1 hm with rfl | hm
      · exact hc
      · exact h3 c hm
theorem At1.mk' {s : List UInt8} {p q : Nat} (h : p ≤ q) (hq : q < s.length) (hc : s[q] ≠ 32) (hw : Wo s p = Wo s q) : ∃ e, At1 s p q e := by
  obtain ⟨e, h1, h2, h3, h4⟩ := word_end s q (by omega)
  have hlt : q < e := by
    rcases Nat.lt_or_ge q e with h | h
    · exact h
    · have : e = q := by omega
      subst this
      exact absurd (h4 hq) hc
  exact ⟨e, h, hlt, h2, h3, h4, hw.trans (Wo_word hlt h2 h3 h4)⟩
/-- Within the word there is no blank; behind it there is one, or nothing. -/
theorem At1.in {s : List UInt8} {p q e i : Nat} (h : At1 s p q e) (h1 : q ≤ i) (h2 : i < e) : ∃ hi : i < s.length, s[i] ≠ 32 := by
  have hi : i < s.length := Nat.lt_of_lt_of_le h2 h.within
  refine ⟨hi, h.whole _ ?_⟩
  rw [tex_cut h1 (Nat.le_of_lt h2) h.within, tex_cons h2 h.within]
  simp
theorem all_tex {s : List UInt8} {q i : Nat} {f : UInt8 → Bool} (h1 : q ≤ i) (hi : i < s.length) (h : (tex s q i).all f = true) (hf : f s[i] = true) : (tex s q (i + 1)).all f = true := by
  rw [tex_succ h1 hi, List.all_append, h]
  simp [hf]
theorem not_all {s : List UInt8} {q e i : Nat} {f : UInt8 → Bool} (h1 : q ≤ i) (h2 : i < e) (he : e ≤ s.length) (hf : f (s[i]'(by omega)) = false) : (tex s q e).all f = false := by
  rw [tex_cut h1 (Nat.le_of_lt h2) he, tex_cons h2 he, List.all_append, List.all_cons, hf]
  simp

/-- A word that does not begin with a letter is a number, or none. -/
theorem kd_noletter {x : List UInt8} {c : UInt8} {r : List UInt8} (e : x = c :: r) (h : isL c = false) : kd x = if isNum x = true then 2 else 1 := by
  have ha : x.all isL = false := by rw [e, List.all_cons, h]; rfl
  have h1 : opOf x = 0 := by
    rcases opOf_cases x with h1 | h1
    · exact h1
    · rw [ha] at h1; exact absurd h1.2.2.1 (by decide)
  simp [kd, h1, isName, ha]
/-- A word that begins with a letter, and has something else, is none. -/
theorem kd_mixed {x : List UInt8} {c : UInt8} {r : List UInt8} (e : x = c :: r) (h : isL c = true) (ha : x.all isL = false) : kd x = 1 := by
  have h1 : opOf x = 0 := by
    rcases opOf_cases x with h1 | h1
    · exact h1
    · rw [ha] at h1; exact absurd h1.2.2.1 (by decide)
  obtain ⟨g1, g2, g3⟩ := isL_not h
  have h2 : isNum x = false := by
    have e2 : mag x = c :: r := by rw [e]; simp [mag, g3]
    unfold isNum
    rw [e2, List.all_cons, g1]
    rfl
  simp [kd, h1, h2, isName, ha]

/-- Where digits begin. -/
structure Dg (s : List UInt8) (q e dg : Nat) : Prop where
  letter : ∀ h : q < s.length, isL s[q] = false
  spot : (dg = q ∧ ∀ h : q < s.length, s[q] ≠ 45) ∨ (dg = q + 1 ∧ ∀ h : q < s.length, s[q] = 45)
  le : dg ≤ e
theorem Dg.mag {s : List UInt8} {p q e dg : Nat} (h : Dg s q e dg) (hw : At1 s p q e) : mag (tex s q e) = tex s dg e := by
  have hq := Nat.lt_of_lt_of_le hw.some hw.within
  rw [tex_cons hw.some hw.within]
  rcases h.spot with ⟨rfl, h1⟩ | ⟨rfl, h1⟩
  · rw [← tex_cons hw.some hw.within]
    unfold Go.Proofs.YtenejaghgehnoaaGreatDoor.mag
    rw [tex_cons hw.some hw.within]
    simp [h1 hq]
  · simp [Go.Proofs.YtenejaghgehnoaaGreatDoor.mag, h1 hq]

theorem Dg.head {s : List UInt8} {p q e dg : Nat} (h : Dg s q e dg) (hw : At1 s p q e) : num (tex s q e) = if dg = q then (digs (tex s dg e) : Int) else -(digs (tex s dg e) : Int) := by
  have hq := Nat.lt_of_lt_of_le hw.some hw.within
  unfold num
  rw [h.mag hw, tex_cons hw.some hw.within]
  rcases h.spot with ⟨rfl, h1⟩ | ⟨rfl, h1⟩
  · simp [h1 hq]
  · simp [h1 hq]
theorem Dg.kind {s : List UInt8} {p q e dg : Nat} (h : Dg s q e dg) (hw : At1 s p q e) : kd (tex s q e) = if (tex s dg e).all isD = true ∧ 1 ≤ e - dg ∧ e - dg ≤ 4 then 2 else 1 := by
  have hq := Nat.lt_of_lt_of_le hw.some hw.within
  rw [kd_noletter (tex_cons hw.some hw.within) (h.letter hq)]
  unfold isNum
  rw [h.mag hw, tex_length hw.within]
  simp [and_assoc]
/-- No digit at all. -/
theorem Dg.none {s : List UInt8} {p q e dg : Nat} (h : Dg s q e dg) (hw : At1 s p q e) (hd : dg = e ∨ ∃ hi : dg < s.length, isD s[dg] = false) : kd (tex s q e) = 1 := by
  rw [h.kind hw]
  rcases hd with rfl | ⟨hi, hd⟩
  · simp
  · rcases Nat.lt_or_ge dg e with hl | hl
    · rw [not_all (Nat.le_refl _) hl hw.within hd]
      simp
    · have := h.le
      have : e - dg = 0 := by omega
      simp [this]
/-- What is known behind digits. -/
theorem Dg.some {s : List UInt8} {p q e dg i : Nat} (h : Dg s q e dg) (hw : At1 s p q e) (h1 : dg < i) (h2 : i ≤ e) (h4 : i ≤ dg + 4) (ha : (tex s dg i).all isD = true) (hd : i = e ∨ i = dg + 4 ∨ ∃ hi : i < s.length, isD s[i] = false) :
    (i = e → kd (tex s q e) = 2 ∧ num (tex s q e) = if dg = q then (digs (tex s dg i) : Int) else -(digs (tex s dg i) : Int)) ∧ (i < e → kd (tex s q e) = 1) := by
  constructor
  · rintro rfl
    rw [h.kind hw, h.head hw]
    refine ⟨if_pos ⟨ha, by omega, by omega⟩, rfl⟩
  · intro hl
    rw [h.kind hw, if_neg]
    rintro ⟨g1, g2, g3⟩
    rcases hd with rfl | rfl | ⟨hi, hd⟩
    · omega
    · omega
    · rw [not_all (by omega) hl hw.within hd] at g1
      cases g1
/-- What is known behind letters. -/
theorem letters_some {s : List UInt8} {p q e i : Nat} (hw : At1 s p q e) (h1 : q < i) (h2 : i ≤ e) (hl : ∀ h : q < s.length, isL s[q] = true) (hd : i = e ∨ ∃ hi : i < s.length, isL s[i] = false) :
    (i = e → kd (tex s q e) = kd (tex s q i)) ∧ (i < e → kd (tex s q e) = 1) := by
  refine ⟨fun h => by rw [h], fun h => ?_⟩
  rcases hd with rfl | ⟨hi, hd⟩
  · omega
  · exact kd_mixed (tex_cons hw.some hw.within) (hl _) (not_all (by omega) h hw.within hd)
theorem digs_snoc (l : List UInt8) (c : UInt8) : digs (l ++ [c]) = 10 * digs l + (c.toNat - 48) := by simp [digs]
theorem digs_lt (l : List UInt8) (h : l.all isD = true) : digs l < 10 ^ l.length := by
  obtain ⟨k, hk⟩ : ∃ k, l.length = k := ⟨_, rfl⟩
  rw [hk]
  induction k generalizing l with
  | zero => rw [List.eq_nil_of_length_eq_zero hk]; decide
  | succ k ih =>
    have hne : l ≠ [] := by rintro rfl; simp at hk
    have e : l = l.dropLast ++ [l.getLast hne] := (List.dropLast_concat_getLast hne).symm
    rw [e, List.all_append, Bool.and_eq_true] at h
    have h1 := ih l.dropLast h.1 (by simp [hk])
    have h2 := h.2
    simp only [List.all_cons, List.all_nil, Bool.and_true, isD, Bool.and_eq_true, decide_eq_true_eq] at h2
    rw [e, digs_snoc, Nat.pow_succ]
    omega

end Go.Proofs.YtenejaghgehnoaaGreatDoor

namespace Go.Proofs.YtenejaghgehnoaaGreatDoor
open Go.RowKit

theorem Tryz.infoWord : (Tryz.prog.info? 236).map (·.size) = some 4 := by
  have h : (Tryz.prog.info? 236).map (fun i => i.size) = some 4 := by kernel_rfl
  exact h
theorem results_word {fn : Func} {p : Nat} (h : fn.results = #[.cell p 236]) (tmps : Array Value) (w : World) {g : Nat} {x y z u : Value} {t : TypeId} {fr : Nat × Nat} (hp : tmps.getD p undef = .pointer (some ⟨g, 0, none⟩)) (hg : w.heap[g]? = some (.cells #[x, y, z, u] t fr)) :
    (results fn tmps).run Tryz.prog w = .ok (.agg #[x, y, z, u]) w :=
  results_cell_row h tmps w g t #[x, y, z, u] fr _ hp hg Tryz.underlying236 rfl Tryz.infoWord

/-- The frame of read. -/
def Fr (s : List UInt8) (R B i dg : Nat) (a : Act) : Prop :=
  ∃ u : Nat → Value, a = { tmps := List.toArray (.string ⟨s.toArray⟩ :: .int .i64 (i : Nat) :: u 2 :: u 3 :: .pointer (some ⟨R, 0, none⟩) :: .pointer (some ⟨B, 0, none⟩) :: .int .i64 (dg : Nat) :: u 7 :: u 8 :: u 9 :: u 10 :: u 11 :: u 12 :: u 13 :: u 14 :: u 15 :: u 16 :: u 17 :: u 18 :: u 19 :: u 20 :: u 21 :: u 22 :: u 23 :: u 24 :: u 25 :: u 26 :: u 27 :: u 28 :: u 29 :: u 30 :: u 31 :: u 32 :: u 33 :: u 34 :: u 35 :: u 36 :: u 37 :: u 38 :: u 39 :: u 40 :: u 41 :: u 42 :: u 43 :: u 44 :: u 45 :: u 46 :: u 47 :: u 48 :: u 49 :: u 50 :: u 51 :: u 52 :: u 53 :: u 54 :: u 55 :: u 56 :: u 57 :: u 58 :: u 59 :: u 60 :: u 61 :: u 62 :: u 63 :: u 64 :: u 65 :: u 66 :: u 67 :: u 68 :: u 69 :: u 70 :: u 71 :: u 72 :: u 73 :: u 74 :: u 75 :: u 76 :: u 77 :: u 78 :: u 79 :: u 80 :: u 81 :: u 82 :: u 83 :: u 84 :: u 85 :: u 86 :: u 87 :: u 88 :: u 89 :: u 90 :: u 91 :: u 92 :: u 93 :: u 94 :: u 95 :: u 96 :: u 97 :: u 98 :: u 99 :: u 100 :: u 101 :: u 102 :: u 103 :: u 104 :: u 105 :: u 106 :: u 107 :: u 108 :: u 109 :: u 110 :: u 111 :: []), defers := [] }
set_option maxRecDepth 100000 in
theorem arr112 (u : Nat → Value) : ((List.range 112).map u).toArray = List.toArray (u 0 :: u 1 :: u 2 :: u 3 :: u 4 :: u 5 :: u 6 :: u 7 :: u 8 :: u 9 :: u 10 :: u 11 :: u 12 :: u 13 :: u 14 :: u 15 :: u 16 :: u 17 :: u 18 :: u 19 :: u 20 :: u 21 :: u 22 :: u 23 :: u 24 :: u 25 :: u 26 :: u 27 :: u 28 :: u 29 :: u 30 :: u 31 :: u 32 :: u 33 :: u 34 :: u 35 :: u 36 :: u 37 :: u 38 :: u 39 :: u 40 :: u 41 :: u 42 :: u 43 :: u 44 :: u 45 :: u 46 :: u 47 :: u 48 :: u 49 :: u 50 :: u 51 :: u 52 :: u 53 :: u 54 :: u 55 :: u 56 :: u 57 :: u 58 :: u 59 :: u 60 :: u 61 :: u 62 :: u 63 :: u 64 :: u 65 :: u 66 :: u 67 :: u 68 :: u 69 :: u 70 :: u 71 :: u 72 :: u 73 :: u 74 :: u 75 :: u 76 :: u 77 :: u 78 :: u 79 :: u 80 :: u 81 :: u 82 :: u 83 :: u 84 :: u 85 :: u 86 :: u 87 :: u 88 :: u 89 :: u 90 :: u 91 :: u 92 :: u 93 :: u 94 :: u 95 :: u 96 :: u 97 :: u 98 :: u 99 :: u 100 :: u 101 :: u 102 :: u 103 :: u 104 :: u 105 :: u 106 :: u 107 :: u 108 :: u 109 :: u 110 :: u 111 :: []) := by
  kernel_rfl
theorem Fr.mk' {s : List UInt8} {R B i dg : Nat} {t : Array Value} (hn : t.size = 112) (h0 : t.getD 0 undef = .string ⟨s.toArray⟩) (h1 : t.getD 1 undef = .int .i64 (i : Nat)) (h4 : t.getD 4 undef = .pointer (some ⟨R, 0, none⟩)) (h5 : t.getD 5 undef = .pointer (some ⟨B, 0, none⟩)) (h6 : t.getD 6 undef = .int .i64 (dg : Nat)) : Fr s R B i dg { tmps := t, defers := [] } := by
  refine ⟨fun j => t.getD j undef, ?_⟩
  congr 1
  rw [← h0, ← h1, ← h4, ← h5, ← h6]
  refine Eq.trans ?_ (arr112 fun j => t.getD j undef)
  refine Array.ext (by simp [hn]) fun j hj hj' => ?_
  simp [Array.getD, hj]

/-- What is known at each label: m: how far it is to the end. -/
def Rsq (s : List UInt8) (p m l i q k : Nat) (n : Int) (dg : Nat) : Prop :=
  (l = 0 ∧ m = 6 * (s.length - i) + 5 ∧ p ≤ i ∧ i ≤ s.length ∧ Wo s p = Wo s i ∧ k = 0 ∧ q = 0 ∧ n = 0 ∧ dg = 0) ∨
  (l = 3 ∧ m = 6 * (s.length - i) + 4 ∧ ∃ e, At1 s p q e ∧ Dg s q e dg ∧ dg ≤ i ∧ i ≤ e ∧ i ≤ dg + 4 ∧ (tex s dg i).all isD = true ∧ k = 0 ∧ n = digs (tex s dg i)) ∨
  (l = 2 ∧ m = 6 * (s.length - i) + 3 ∧ ∃ e, At1 s p q e ∧ q ≤ i ∧ i ≤ e ∧ (tex s q i).all isL = true ∧ (∀ h : q < s.length, isL s[q] = true) ∧ k = 0 ∧ n = 0) ∨
  (l = 4 ∧ m = 6 * (s.length - i) + 2 ∧ ∃ e, At1 s p q e ∧ q ≤ i ∧ i ≤ e ∧ kd (tex s q e) = 1) ∨
  (l = 5 ∧ m = 6 * (s.length - i) + 1 ∧ ∃ e, At1 s p q e ∧ q ≤ i ∧ i ≤ e ∧ (i = e → k = kd (tex s q e) ∧ (k = 2 → n = num (tex s q e))) ∧ (i < e → kd (tex s q e) = 1)) ∨
  (l = 1 ∧ m = 6 * (s.length - i) ∧ ((q = s.length ∧ i = s.length ∧ k = 0 ∧ Wo s p = []) ∨ ∃ e, At1 s p q e ∧ i = e ∧ k = kd (tex s q e) ∧ (k = 2 → n = num (tex s q e))))

/-- The two words of read in memory: what it answers, and what it has so far. -/
structure Mm (w0 w : World) (k q t n : Int) : Prop where
  kept : Kept (fun _ => True) w0 w
  res : w.heap[w0.heap.size]? = some (.cells #[.int .i64 0, .int .i64 0, .int .i64 0, .int .i64 0] 236 (0, 0))
  cur : w.heap[w0.heap.size + 1]? = some (.cells #[.int .i64 k, .int .i64 q, .int .i64 t, .int .i64 n] 236 (0, 0))
theorem set_word {w : World} {b : Nat} {cs : Array Value} {t : TypeId} {fr : Nat × Nat} (h : w.heap[b]? = some (.cells cs t fr)) (k : Nat) (u : Value) :
    (w.setCell ⟨b, k, none⟩ u).heap[b]? = some (.cells (cs.setIfInBounds k u) t fr) := Go.Joins.block_setCell h u
theorem Mm.set {w0 w : World} {k q t n : Int} (h : Mm w0 w k q t n) {k' q' t' n' : Int} (j : Nat) (u : Value) (he : (#[Value.int .i64 k, .int .i64 q, .int .i64 t, .int .i64 n] : Array Value).setIfInBounds j u = #[.int .i64 k', .int .i64 q', .int .i64 t', .int .i64 n']) : Mm w0 (w.setCell ⟨w0.heap.size + 1, j, none⟩ u) k' q' t' n' := by
  refine ⟨⟨h.kept.os, h.kept.tape, h.kept.output, Nat.le_trans h.kept.size (by simp [World.setCell]), fun i hi hp => (heap_setCell_other w _ i u (by simp; omega)).trans (h.kept.block i hi hp)⟩, (heap_setCell_other w _ _ u (by simp)).trans h.res, ?_⟩
  rw [set_word h.cur, he]
theorem Mm.cells {w0 w : World} {k q t n : Int} (h : Mm w0 w k q t n) :
    w.cell? ⟨w0.heap.size + 1, 0, none⟩ = some (.int .i64 k) ∧ w.cell? ⟨w0.heap.size + 1, 1, none⟩ = some (.int .i64 q) ∧ w.cell? ⟨w0.heap.size + 1, 2, none⟩ = some (.int .i64 t) ∧ w.cell? ⟨w0.heap.size + 1, 3, none⟩ = some (.int .i64 n) ∧ (∀ j, w.frozen? ⟨w0.heap.size + 1, j, none⟩ = false) :=
  ⟨by simp [World.cell?, h.cur], by simp [World.cell?, h.cur], by simp [World.cell?, h.cur], by simp [World.cell?, h.cur], fun j => by simp [World.frozen?, h.cur]⟩
theorem Mm.drewN {w0 w : World} {k q t n : Int} (h : Mm w0 w k q t n) (c : Nat) : Mm w0 (w.drewN c) k q t n := ⟨h.kept.drewN c, h.res, h.cur⟩

/-- What holds at each label. -/
def Rj (w0 : World) (s : List UInt8) (p m l : Nat) (a : Act) (w : World) : Prop :=
  ∃ (i q k : Nat) (n : Int) (dg : Nat), Rsq s p m l i q k n dg ∧ Fr s w0.heap.size (w0.heap.size + 1) i dg a ∧ Mm w0 w k q 0 n

/-- The body of a function's scope. -/
def scopeIn : Option Code → Code
  | some (.seq _ (.scope c)) => c
  | _ => .skip
/-- What read answers. -/
def Rdq (s : List UInt8) (p k q t : Nat) (n : Int) : Prop :=
  (k = 0 ∧ q = s.length ∧ t = s.length ∧ Wo s p = []) ∨ (At1 s p q t ∧ k = kd (tex s q t) ∧ (k = 2 → n = num (tex s q t)))
abbrev Rp (w : World) (s : List UInt8) (p : Nat) : Exit → Act → World → Prop :=
  bodyPost Tryz.prog Tryz.f169 fun e w' => (∃ (k q t : Nat) (n : Int), e = .returned (.agg #[.int .i64 (k : Nat), .int .i64 (q : Nat), .int .i64 (t : Nat), .int .i64 n]) ∧ Rdq s p k q t n) ∧ Kept (fun _ => True) w w'
/-- The way from a label on, as all six are asked. -/
abbrev Rw (w : World) (s : List UInt8) (p M l : Nat) (a : Act) (w1 : World) : Prop :=
  From Tryz.prog (scopeIn Tryz.f169.body) (Exit.jumps (fun l' a' w' => ∃ m', m' < M ∧ Rj w s p m' l' a' w') (Rp w s p)) l a w1

theorem at_text (s : List UInt8) (i : Nat) (_ : i < s.length) (h' : i < (⟨s.toArray⟩ : ByteArray).size) : (⟨s.toArray⟩ : ByteArray)[i]'h' = s[i] := rfl
theorem cut_text (s : List UInt8) (q i : Nat) (h : q ≤ i) (hi : i ≤ s.length) (w0 : World) : (Instr.slice 9 (.string ⟨s.toArray⟩) (some (.int .i64 (q : Int))) (some (.int .i64 (i : Int))) none).run Tryz.prog w0 = .ok (.string ⟨(tex s q i).toArray⟩) w0 := by
  have hs : ((⟨s.toArray⟩ : ByteArray).size : Int) = (s.length : Int) := by simp [ByteArray.size]
  rw [run_slice_string_if (P := Tryz.prog) w0 9 ⟨s.toArray⟩ .i64 .i64 q i Tryz.underlying9, if_pos ⟨by omega, by omega⟩, if_pos ⟨by omega, by omega⟩]
  congr 2
  apply ByteArray.ext
  simp [tex]
/-- Behind the word there is a blank, or nothing. -/
theorem At1.out {s : List UInt8} {p q e i : Nat} (h : At1 s p q e) (h1 : q ≤ i) (h2 : i ≤ e) : (∃ hi : i < s.length, i < e ∧ s[i] ≠ 32) ∨ (i = e ∧ i = s.length) ∨ (i = e ∧ ∃ hi : i < s.length, s[i] = 32) := by
  rcases Nat.lt_or_ge i e with h3 | h3
  · obtain ⟨hi, hc⟩ := h.in h1 h3
    exact .inl ⟨hi, h3, hc⟩
  · have : i = e := by omega
    subst this
    rcases Nat.lt_or_ge i s.length with h4 | h4
    · exact .inr (.inr ⟨rfl, h4, h.ends h4⟩)
    · have := h.within
      exact .inr (.inl ⟨rfl, by omega⟩)

set_option maxRecDepth 100000 in
set_option maxHeartbeats 1000000 in
theorem rd0a {w w1 : World} {s : List UInt8} (_ : s.length ≤ 281474976710656) {p i : Nat} {a : Act} (h1 : p ≤ i) (hlt : i < s.length) (h3 : Wo s p = Wo s i) (hc : s[i] = 32) (hF : Fr s w.heap.size (w.heap.size + 1) i 0 a) (hM : Mm w w1 0 0 0 0) :
    Rw w s p (6 * (s.length - i) + 5) 0 a w1 := by
  obtain ⟨u, rfl⟩ := hF
  have HM : Hid (Mm w w1 0 0 0 0) := hM
  have HW : Hid (Wo s p = Wo s (i + 1)) := h3.trans (Wo_blank hlt hc)
  clear hM h3
  have hx := at_text s i hlt (by simpa [ByteArray.size] using hlt)
  rw [hc] at hx
  clear hc
  have i1 : (i : Int) < (s.length : Int) := by omega
  have i0 : (0 : Int) ≤ (i : Int) := by omega
  refine ⟨_, rfl, ?_⟩
  go_wp2_with fail
  go_step3
  exact ⟨_, by omega, i + 1, 0, 0, 0, 0, .inl ⟨rfl, rfl, by omega, by omega, HW.out, rfl, rfl, rfl, rfl⟩, Fr.mk' rfl rfl rfl rfl rfl rfl, HM.out⟩

set_option maxRecDepth 100000 in
set_option maxHeartbeats 1000000 in
theorem rd0b {w w1 : World} {s : List UInt8} (_ : s.length ≤ 281474976710656) {p i : Nat} {a : Act} (hlt : i = s.length) (h3 : Wo s p = Wo s i) (hF : Fr s w.heap.size (w.heap.size + 1) i 0 a) (hM : Mm w w1 0 0 0 0) :
    Rw w s p (6 * (s.length - i) + 5) 0 a w1 := by
  obtain ⟨u, rfl⟩ := hF
  subst hlt
  have HM : Hid (Mm w (w1.setCell ⟨w.heap.size + 1, 1, none⟩ (.int .i64 (s.length : Nat))) 0 s.length 0 0) := hM.set 1 _ rfl
  have HW : Hid (Wo s p = []) := h3.trans (Wo_end (by omega))
  obtain ⟨c0, c1, c2, c3, hfz⟩ := hM.cells
  have hf1 := hfz 1
  clear hM h3 hfz
  refine ⟨_, rfl, ?_⟩
  go_wp2_with fail
  go_step3
  exact ⟨_, by omega, s.length, s.length, 0, 0, 0, .inr (.inr (.inr (.inr (.inr ⟨rfl, rfl, .inl ⟨rfl, rfl, rfl, HW.out⟩⟩)))), Fr.mk' rfl rfl rfl rfl rfl rfl, HM.out⟩

/-- What may be used of labels that are nearer to the end. -/
abbrev Ri (w : World) (s : List UInt8) (p M : Nat) : Prop := Hid (∀ m' l' a' w', m' < M → Rj w s p m' l' a' w' → Rw w s p M l' a' w')

set_option maxRecDepth 100000 in
set_option maxHeartbeats 1000000 in
theorem rd0c {w w1 : World} {s : List UInt8} (_ : s.length ≤ 281474976710656) {p i : Nat} {a : Act} (h1 : p ≤ i) (hlt : i < s.length) (h3 : Wo s p = Wo s i) (hc : s[i] ≠ 32) (hF : Fr s w.heap.size (w.heap.size + 1) i 0 a) (hM : Mm w w1 0 0 0 0) (IH : Ri w s p (6 * (s.length - i) + 5)) :
    Rw w s p (6 * (s.length - i) + 5) 0 a w1 := by
  obtain ⟨u, rfl⟩ := hF
  obtain ⟨e, hE⟩ := At1.mk' h1 hlt hc h3
  have HE : Hid (At1 s p i e) := hE
  have hie := hE.some
  have hel := hE.within
  have HM : Hid (Mm w (w1.setCell ⟨w.heap.size + 1, 1, none⟩ (.int .i64 (i : Nat))) 0 i 0 0) := hM.set 1 _ rfl
  obtain ⟨c0, c1, c2, c3, hfz⟩ := hM.cells
  have hf1 := hfz 1
  clear hM h3 hE hfz
  have hx := at_text s i hlt (by simpa [ByteArray.size] using hlt)
  have i1 : (i : Int) < (s.length : Int) := by omega
  have i2 : ((i : Int) == (s.length : Int)) = false := by simp; omega
  have i0 : (0 : Int) ≤ (i : Int) := by omega
  by_cases hl : isL s[i] = true
  · have HT : Hid (∀ h : i < s.length, isL s[i] = true) := fun _ => hl
    have cl := fun W => isLetter_any (w := W) s[i]
    rw [hl] at cl
    have hc' : ((s[i].toNat : Int) == 32) = false := by simp only [beq_eq_false_iff_ne, ne_eq]; intro q; exact hc (UInt8.toNat_inj.1 (by simpa using (by omega : s[i].toNat = 32)))
    clear hc hl
    generalize s[i] = c at hx cl hc'
    refine ⟨_, rfl, ?_⟩
    go_wp2_with fail
    refine Calls.mono (cl _) ?_
    rintro e' w2 ⟨rfl, rfl⟩
    go_wp2_with fail
    go_step3
    exact ⟨_, by omega, i, i, 0, 0, 0, .inr (.inr (.inl ⟨rfl, rfl, e, HE.out, Nat.le_refl _, by omega, by simp [tex_self], HT.out, rfl, rfl⟩)), Fr.mk' rfl rfl rfl rfl rfl rfl, HM.out⟩
  · have hl' : isL s[i] = false := by simpa using hl
    have HT : Hid (∀ h : i < s.length, isL s[i] = false) := fun _ => hl'
    have cl := fun W => isLetter_any (w := W) s[i]
    rw [hl'] at cl
    have hc' : ((s[i].toNat : Int) == 32) = false := by simp only [beq_eq_false_iff_ne, ne_eq]; intro q; exact hc (UInt8.toNat_inj.1 (by simpa using (by omega : s[i].toNat = 32)))
    clear hc hl hl'
    by_cases hm : s[i] = 45
    · have HD : Hid (Dg s i e (i + 1)) := ⟨HT.out, .inr ⟨rfl, fun _ => hm⟩, by omega⟩
      rw [hm] at hx cl
      clear hm hc'
      refine ⟨_, rfl, ?_⟩
      go_wp2_with fail
      refine Calls.mono (cl _) ?_
      rintro e' w2 ⟨rfl, rfl⟩
      go_wp2_with fail
      go_step3
      iterate 2 (first | go_values | go_skip | go_guarded | go_step | go_upon | go_back)
      refine From.use (IH.out (6 * (s.length - (i + 1)) + 4) 3 _ _ (by omega) ⟨i + 1, i, 0, 0, i + 1, .inr (.inl ⟨rfl, rfl, e, HE.out, HD.out, Nat.le_refl _, by omega, by omega, by simp [tex_self], rfl, by simp [tex_self, digs]⟩), ?_, ?_⟩) rfl
      · exact Fr.mk' rfl rfl rfl rfl rfl rfl
      · exact HM.out
    · have HD : Hid (Dg s i e i) := ⟨HT.out, .inl ⟨rfl, fun _ => hm⟩, by omega⟩
      have hm' : ((s[i].toNat : Int) == 45) = false := by simp only [beq_eq_false_iff_ne, ne_eq]; intro q; exact hm (UInt8.toNat_inj.1 (by simpa using (by omega : s[i].toNat = 45)))
      clear hm
      generalize s[i] = c at hx cl hc' hm'
      refine ⟨_, rfl, ?_⟩
      go_wp2_with fail
      refine Calls.mono (cl _) ?_
      rintro e' w2 ⟨rfl, rfl⟩
      go_wp2_with fail
      go_step3
      iterate 2 (first | go_values | go_skip | go_guarded | go_step | go_upon | go_back)
      refine From.use (IH.out (6 * (s.length - i) + 4) 3 _ _ (by omega) ⟨i, i, 0, 0, i, .inr (.inl ⟨rfl, rfl, e, HE.out, HD.out, Nat.le_refl _, by omega, by omega, by simp [tex_self], rfl, by simp [tex_self, digs]⟩), ?_, ?_⟩) rfl
      · exact Fr.mk' rfl rfl rfl rfl rfl rfl
      · exact HM.out

end Go.Proofs.YtenejaghgehnoaaGreatDoor

namespace Go.Proofs.YtenejaghgehnoaaGreatDoor
open Go.RowKit

theorem alloc_two (w : World) (o o' : Obj) : ((w.alloc o).alloc o').heap[w.heap.size]? = some o ∧ ((w.alloc o).alloc o').heap[w.heap.size + 1]? = some o' := by
  refine ⟨(((Kept.refl (fun _ => True) _).alloc _).block w.heap.size (by simp) trivial).trans (heap_alloc_new w _), ?_⟩
  have hz := heap_alloc_new (w.alloc o) o'
  have hy : (w.alloc o).heap.size = w.heap.size + 1 := by simp
  rw [hy] at hz
  exact hz
theorem Mm.drew {w0 w : World} {k q t n : Int} (h : Mm w0 w k q t n) : Mm w0 w.drew k q t n := ⟨h.kept.drew, h.res, h.cur⟩

set_option maxRecDepth 100000 in
set_option maxHeartbeats 1000000 in
theorem rd3a {w w1 : World} {s : List UInt8} (_ : s.length ≤ 281474976710656) {p q e i dg : Nat} {a : Act} (hE : At1 s p q e) (hD : Dg s q e dg) (h1 : dg ≤ i) (h2 : i < e) (h4 : i < dg + 4) (ha : (tex s dg i).all isD = true) (hlt : i < s.length) (hc : isD s[i] = true)
    (hF : Fr s w.heap.size (w.heap.size + 1) i dg a) (hM : Mm w w1 0 q 0 (digs (tex s dg i))) : Rw w s p (6 * (s.length - i) + 4) 3 a w1 := by
  obtain ⟨u, rfl⟩ := hF
  have HE : Hid (At1 s p q e) := hE
  have HD : Hid (Dg s q e dg) := hD
  have HA : Hid ((tex s dg (i + 1)).all isD = true) := all_tex h1 hlt ha hc
  have hb : digs (tex s dg i) < 1000 := by
    have := digs_lt _ ha
    have hl := tex_length (q := dg) (Nat.le_of_lt hlt)
    rw [hl] at this
    exact Nat.lt_of_lt_of_le this (Nat.pow_le_pow_right (n := 10) (by decide) (show i - dg ≤ 3 by omega))
  have HN : Hid (digs (tex s dg (i + 1)) = 10 * digs (tex s dg i) + (s[i].toNat - 48)) := by
    show _ = _
    rw [tex_succ h1 hlt, digs_snoc]
  have hd := hc
  simp only [isD, Bool.and_eq_true, decide_eq_true_eq] at hd
  obtain ⟨d1, d2⟩ := hd
  have cl := fun W => isDigit_any (w := W) s[i]
  rw [hc] at cl
  have hx := at_text s i hlt (by simpa [ByteArray.size] using hlt)
  clear hE hD ha hc
  generalize digs (tex s dg i) = N at *
  generalize s[i] = c at *
  have HM : Hid (Mm w (w1.setCell ⟨w.heap.size + 1, 3, none⟩ (.int .i64 (10 * (N : Int) + ((c.toNat : Int) - 48)))).drew 0 q 0 (10 * (N : Int) + ((c.toNat : Int) - 48))) := (hM.set 3 _ rfl).drew
  obtain ⟨c0, c1, c2, c3, hfz⟩ := hM.cells
  have hf3 := hfz 3
  clear hM hfz
  have i1 : (i : Int) < (s.length : Int) := by omega
  have i0 : (0 : Int) ≤ (i : Int) := by omega
  have i4 : (i : Int) < (dg : Int) + 4 := by omega
  refine ⟨_, rfl, ?_⟩
  go_wp2_with fail
  refine Calls.mono (cl _) ?_
  rintro e' w2 ⟨rfl, rfl⟩
  go_wp2_with fail
  go_region
  all_goals
    go_wp2_with fail
    go_step3
    exact ⟨_, by omega, i + 1, q, 0, 10 * (N : Int) + ((c.toNat : Int) - 48), dg, .inr (.inl ⟨rfl, rfl, e, HE.out, HD.out, by omega, by omega, by omega, HA.out, rfl, by rw [HN.out]; omega⟩), Fr.mk' rfl rfl rfl rfl rfl rfl, HM.out⟩

set_option maxRecDepth 100000 in
set_option maxHeartbeats 1000000 in
theorem rd3na {w w1 : World} {s : List UInt8} (_ : s.length ≤ 281474976710656) {p q e i dg : Nat} {a : Act} (hE : At1 s p q e) (hq : q ≤ i) (h2 : i ≤ e) (h0 : i = dg) (hk : kd (tex s q e) = 1) (hlt : i = s.length)
    (hF : Fr s w.heap.size (w.heap.size + 1) i dg a) {n : Int} (hM : Mm w w1 0 q 0 n) : Rw w s p (6 * (s.length - i) + 4) 3 a w1 := by
  subst h0
  obtain ⟨u, rfl⟩ := hF
  have HE : Hid (At1 s p q e) := hE
  have HC : Hid (kd (tex s q e) = 1) := hk
  have HM : Hid (Mm w w1 0 q 0 n) := hM
  clear hE hk hM
  subst hlt
  refine ⟨_, rfl, ?_⟩
  go_wp2_with fail
  go_step3
  exact ⟨_, by omega, s.length, q, 0, n, s.length, .inr (.inr (.inr (.inl ⟨rfl, rfl, e, HE.out, hq, h2, HC.out⟩))), Fr.mk' rfl rfl rfl rfl rfl rfl, HM.out⟩

set_option maxRecDepth 100000 in
set_option maxHeartbeats 1000000 in
theorem rd3pa {w w1 : World} {s : List UInt8} (_ : s.length ≤ 281474976710656) {p q e i dg : Nat} {a : Act} (hE : At1 s p q e) (h1 : dg < i) (_ : q ≤ dg) (h2 : i ≤ e) {n : Int} (hn : 0 ≤ n ∧ n < 10000) (hk : (i = e → kd (tex s q e) = 2 ∧ num (tex s q e) = n) ∧ (i < e → kd (tex s q e) = 1)) (hm : ∀ h : q < s.length, s[q] ≠ 45) (hlt : i = s.length)
    (hF : Fr s w.heap.size (w.heap.size + 1) i dg a) (hM : Mm w w1 0 q 0 n) : Rw w s p (6 * (s.length - i) + 4) 3 a w1 := by
  obtain ⟨u, rfl⟩ := hF
  have hql : q < s.length := Nat.lt_of_lt_of_le hE.some hE.within
  have HE : Hid (At1 s p q e) := hE
  have HC : Hid ((i = e → kd (tex s q e) = 2 ∧ num (tex s q e) = n) ∧ (i < e → kd (tex s q e) = 1)) := hk
  have HM : Hid (Mm w (w1.setCell ⟨w.heap.size + 1, 0, none⟩ (.int .i64 2)) 2 q 0 (n)) := hM.set 0 _ rfl
  obtain ⟨c0, c1, c2, c3, hfz⟩ := hM.cells
  have hf0 := hfz 0
  have hf3 := hfz 3
  obtain ⟨n0, n1⟩ := hn
  clear hE hk hM hfz
  have hqx := at_text s q hql (by simpa [ByteArray.size] using hql)
  have hm' : ((s[q].toNat : Int) == 45) = false := by simp only [beq_eq_false_iff_ne, ne_eq]; intro x; exact hm hql (UInt8.toNat_inj.1 (by simpa using (by omega : s[q].toNat = 45)))
  clear hm
  generalize s[q] = cq at *
  subst hlt
  have g1 : ((s.length : Int) == (dg : Int)) = false := by simp; omega
  have g0 : (0 : Int) ≤ (q : Int) := by omega
  have gq : (q : Int) < (s.length : Int) := by omega
  refine ⟨_, rfl, ?_⟩
  go_wp2_with fail
  go_step3
  exact ⟨_, by omega, s.length, q, 2, n, dg, .inr (.inr (.inr (.inr (.inl ⟨rfl, rfl, e, HE.out, by omega, h2, fun x => ⟨(HC.out.1 x).1.symm, fun _ => (HC.out.1 x).2.symm⟩, HC.out.2⟩)))), Fr.mk' rfl rfl rfl rfl rfl rfl, HM.out⟩

set_option maxRecDepth 100000 in
set_option maxHeartbeats 1000000 in
theorem rd3ma {w w1 : World} {s : List UInt8} (_ : s.length ≤ 281474976710656) {p q e i dg : Nat} {a : Act} (hE : At1 s p q e) (h1 : dg < i) (_ : q ≤ dg) (h2 : i ≤ e) {n : Int} (hn : 0 ≤ n ∧ n < 10000) (hk : (i = e → kd (tex s q e) = 2 ∧ num (tex s q e) = -n) ∧ (i < e → kd (tex s q e) = 1)) (hm : ∀ h : q < s.length, s[q] = 45) (hlt : i = s.length)
    (hF : Fr s w.heap.size (w.heap.size + 1) i dg a) (hM : Mm w w1 0 q 0 n) : Rw w s p (6 * (s.length - i) + 4) 3 a w1 := by
  obtain ⟨u, rfl⟩ := hF
  have hql : q < s.length := Nat.lt_of_lt_of_le hE.some hE.within
  have HE : Hid (At1 s p q e) := hE
  have HC : Hid ((i = e → kd (tex s q e) = 2 ∧ num (tex s q e) = -n) ∧ (i < e → kd (tex s q e) = 1)) := hk
  have HM : Hid (Mm w ((w1.setCell ⟨w.heap.size + 1, 3, none⟩ (.int .i64 (-n))).setCell ⟨w.heap.size + 1, 0, none⟩ (.int .i64 2)) 2 q 0 (-n)) := (hM.set 3 _ rfl).set 0 _ rfl
  obtain ⟨c0, c1, c2, c3, hfz⟩ := hM.cells
  have hf0 := hfz 0
  have hf3 := hfz 3
  obtain ⟨n0, n1⟩ := hn
  clear hE hk hM hfz
  have hqx := at_text s q hql (by simpa [ByteArray.size] using hql)
  rw [hm hql] at hqx
  clear hm
  subst hlt
  have g1 : ((s.length : Int) == (dg : Int)) = false := by simp; omega
  have g0 : (0 : Int) ≤ (q : Int) := by omega
  have gq : (q : Int) < (s.length : Int) := by omega
  refine ⟨_, rfl, ?_⟩
  go_wp2_with fail
  go_step3
  exact ⟨_, by omega, s.length, q, 2, -n, dg, .inr (.inr (.inr (.inr (.inl ⟨rfl, rfl, e, HE.out, by omega, h2, fun x => ⟨(HC.out.1 x).1.symm, fun _ => (HC.out.1 x).2.symm⟩, HC.out.2⟩)))), Fr.mk' rfl rfl rfl rfl rfl rfl, HM.out⟩

set_option maxRecDepth 100000 in
set_option maxHeartbeats 1000000 in
theorem rd3pb {w w1 : World} {s : List UInt8} (_ : s.length ≤ 281474976710656) {p q e i dg : Nat} {a : Act} (hE : At1 s p q e) (_ : dg < i) (hqd : q ≤ dg) (h2 : i ≤ e) {n : Int} (hn : 0 ≤ n ∧ n < 10000) (hk : (i = e → kd (tex s q e) = 2 ∧ num (tex s q e) = n) ∧ (i < e → kd (tex s q e) = 1)) (hm : ∀ h : q < s.length, s[q] ≠ 45) (hlt : i < s.length) (hd : i = dg + 4)
    (hF : Fr s w.heap.size (w.heap.size + 1) i dg a) (hM : Mm w w1 0 q 0 n) : Rw w s p (6 * (s.length - i) + 4) 3 a w1 := by
  obtain ⟨u, rfl⟩ := hF
  have hql : q < s.length := Nat.lt_of_lt_of_le hE.some hE.within
  have HE : Hid (At1 s p q e) := hE
  have HC : Hid ((i = e → kd (tex s q e) = 2 ∧ num (tex s q e) = n) ∧ (i < e → kd (tex s q e) = 1)) := hk
  have HM : Hid (Mm w (w1.setCell ⟨w.heap.size + 1, 0, none⟩ (.int .i64 2)) 2 q 0 (n)) := hM.set 0 _ rfl
  obtain ⟨c0, c1, c2, c3, hfz⟩ := hM.cells
  have hf0 := hfz 0
  have hf3 := hfz 3
  obtain ⟨n0, n1⟩ := hn
  clear hE hk hM hfz
  have hqx := at_text s q hql (by simpa [ByteArray.size] using hql)
  have hm' : ((s[q].toNat : Int) == 45) = false := by simp only [beq_eq_false_iff_ne, ne_eq]; intro x; exact hm hql (UInt8.toNat_inj.1 (by simpa using (by omega : s[q].toNat = 45)))
  clear hm
  generalize s[q] = cq at *
  have i1 : (i : Int) < (s.length : Int) := by omega
  have i4 : ¬ (i : Int) < (dg : Int) + 4 := by omega
  have HI : Hid (i = dg + 4) := hd
  clear hd
  have g1 : ((i : Int) == (dg : Int)) = false := by simp; omega
  have g0 : (0 : Int) ≤ (q : Int) := by omega
  have gq : (q : Int) < (s.length : Int) := by omega
  refine ⟨_, rfl, ?_⟩
  go_wp2_with fail
  go_step3
  exact ⟨_, by omega, i, q, 2, n, dg, .inr (.inr (.inr (.inr (.inl ⟨rfl, rfl, e, HE.out, by omega, h2, fun x => ⟨(HC.out.1 x).1.symm, fun _ => (HC.out.1 x).2.symm⟩, HC.out.2⟩)))), Fr.mk' rfl rfl rfl rfl rfl rfl, HM.out⟩

set_option maxRecDepth 100000 in
set_option maxHeartbeats 1000000 in
theorem rd3mb {w w1 : World} {s : List UInt8} (_ : s.length ≤ 281474976710656) {p q e i dg : Nat} {a : Act} (hE : At1 s p q e) (_ : dg < i) (hqd : q ≤ dg) (h2 : i ≤ e) {n : Int} (hn : 0 ≤ n ∧ n < 10000) (hk : (i = e → kd (tex s q e) = 2 ∧ num (tex s q e) = -n) ∧ (i < e → kd (tex s q e) = 1)) (hm : ∀ h : q < s.length, s[q] = 45) (hlt : i < s.length) (hd : i = dg + 4)
    (hF : Fr s w.heap.size (w.heap.size + 1) i dg a) (hM : Mm w w1 0 q 0 n) : Rw w s p (6 * (s.length - i) + 4) 3 a w1 := by
  obtain ⟨u, rfl⟩ := hF
  have hql : q < s.length := Nat.lt_of_lt_of_le hE.some hE.within
  have HE : Hid (At1 s p q e) := hE
  have HC : Hid ((i = e → kd (tex s q e) = 2 ∧ num (tex s q e) = -n) ∧ (i < e → kd (tex s q e) = 1)) := hk
  have HM : Hid (Mm w ((w1.setCell ⟨w.heap.size + 1, 3, none⟩ (.int .i64 (-n))).setCell ⟨w.heap.size + 1, 0, none⟩ (.int .i64 2)) 2 q 0 (-n)) := (hM.set 3 _ rfl).set 0 _ rfl
  obtain ⟨c0, c1, c2, c3, hfz⟩ := hM.cells
  have hf0 := hfz 0
  have hf3 := hfz 3
  obtain ⟨n0, n1⟩ := hn
  clear hE hk hM hfz
  have hqx := at_text s q hql (by simpa [ByteArray.size] using hql)
  rw [hm hql] at hqx
  clear hm
  have i1 : (i : Int) < (s.length : Int) := by omega
  have i4 : ¬ (i : Int) < (dg : Int) + 4 := by omega
  have HI : Hid (i = dg + 4) := hd
  clear hd
  have g1 : ((i : Int) == (dg : Int)) = false := by simp; omega
  have g0 : (0 : Int) ≤ (q : Int) := by omega
  have gq : (q : Int) < (s.length : Int) := by omega
  refine ⟨_, rfl, ?_⟩
  go_wp2_with fail
  go_step3
  exact ⟨_, by omega, i, q, 2, -n, dg, .inr (.inr (.inr (.inr (.inl ⟨rfl, rfl, e, HE.out, by omega, h2, fun x => ⟨(HC.out.1 x).1.symm, fun _ => (HC.out.1 x).2.symm⟩, HC.out.2⟩)))), Fr.mk' rfl rfl rfl rfl rfl rfl, HM.out⟩

set_option maxRecDepth 100000 in
set_option maxHeartbeats 1000000 in
theorem rd3nc {w w1 : World} {s : List UInt8} (_ : s.length ≤ 281474976710656) {p q e i dg : Nat} {a : Act} (hE : At1 s p q e) (hq : q ≤ i) (h2 : i ≤ e) (h0 : i = dg) (hk : kd (tex s q e) = 1) (hlt : i < s.length) (hd : i < dg + 4) (hc : isD s[i] = false)
    (hF : Fr s w.heap.size (w.heap.size + 1) i dg a) {n : Int} (hM : Mm w w1 0 q 0 n) : Rw w s p (6 * (s.length - i) + 4) 3 a w1 := by
  subst h0
  obtain ⟨u, rfl⟩ := hF
  have HE : Hid (At1 s p q e) := hE
  have HC : Hid (kd (tex s q e) = 1) := hk
  have HM : Hid (Mm w w1 0 q 0 n) := hM
  clear hE hk hM
  have i1 : (i : Int) < (s.length : Int) := by omega
  have i0 : (0 : Int) ≤ (i : Int) := by omega
  have i4 : (i : Int) < (i : Int) + 4 := by omega
  have cl := fun W => isDigit_any (w := W) s[i]
  rw [hc] at cl
  have hx := at_text s i hlt (by simpa [ByteArray.size] using hlt)
  clear hc
  generalize s[i] = c at *
  refine ⟨_, rfl, ?_⟩
  go_wp2_with fail
  refine Calls.mono (cl _) ?_
  rintro e' w2 ⟨rfl, rfl⟩
  go_wp2_with fail
  go_step3
  exact ⟨_, by omega, i, q, 0, n, i, .inr (.inr (.inr (.inl ⟨rfl, rfl, e, HE.out, hq, h2, HC.out⟩))), Fr.mk' rfl rfl rfl rfl rfl rfl, HM.out⟩

set_option maxRecDepth 100000 in
set_option maxHeartbeats 1000000 in
theorem rd3pc {w w1 : World} {s : List UInt8} (_ : s.length ≤ 281474976710656) {p q e i dg : Nat} {a : Act} (hE : At1 s p q e) (h1 : dg < i) (hqd : q ≤ dg) (h2 : i ≤ e) {n : Int} (hn : 0 ≤ n ∧ n < 10000) (hk : (i = e → kd (tex s q e) = 2 ∧ num (tex s q e) = n) ∧ (i < e → kd (tex s q e) = 1)) (hm : ∀ h : q < s.length, s[q] ≠ 45) (hlt : i < s.length) (hd : i < dg + 4) (hc : isD s[i] = false)
    (hF : Fr s w.heap.size (w.heap.size + 1) i dg a) (hM : Mm w w1 0 q 0 n) : Rw w s p (6 * (s.length - i) + 4) 3 a w1 := by
  obtain ⟨u, rfl⟩ := hF
  have hql : q < s.length := Nat.lt_of_lt_of_le hE.some hE.within
  have HE : Hid (At1 s p q e) := hE
  have HC : Hid ((i = e → kd (tex s q e) = 2 ∧ num (tex s q e) = n) ∧ (i < e → kd (tex s q e) = 1)) := hk
  have HM : Hid (Mm w (w1.setCell ⟨w.heap.size + 1, 0, none⟩ (.int .i64 2)) 2 q 0 (n)) := hM.set 0 _ rfl
  obtain ⟨c0, c1, c2, c3, hfz⟩ := hM.cells
  have hf0 := hfz 0
  have hf3 := hfz 3
  obtain ⟨n0, n1⟩ := hn
  clear hE hk hM hfz
  have hqx := at_text s q hql (by simpa [ByteArray.size] using hql)
  have hm' : ((s[q].toNat : Int) == 45) = false := by simp only [beq_eq_false_iff_ne, ne_eq]; intro x; exact hm hql (UInt8.toNat_inj.1 (by simpa using (by omega : s[q].toNat = 45)))
  clear hm
  generalize s[q] = cq at *
  have i1 : (i : Int) < (s.length : Int) := by omega
  have i0 : (0 : Int) ≤ (i : Int) := by omega
  have i4 : (i : Int) < (dg : Int) + 4 := by omega
  have cl := fun W => isDigit_any (w := W) s[i]
  rw [hc] at cl
  have hx := at_text s i hlt (by simpa [ByteArray.size] using hlt)
  clear hc
  generalize s[i] = c at *
  have g1 : ((i : Int) == (dg : Int)) = false := by simp; omega
  have g0 : (0 : Int) ≤ (q : Int) := by omega
  have gq : (q : Int) < (s.length : Int) := by omega
  refine ⟨_, rfl, ?_⟩
  go_wp2_with fail
  refine Calls.mono (cl _) ?_
  rintro e' w2 ⟨rfl, rfl⟩
  go_wp2_with fail
  go_step3
  exact ⟨_, by omega, i, q, 2, n, dg, .inr (.inr (.inr (.inr (.inl ⟨rfl, rfl, e, HE.out, by omega, h2, fun x => ⟨(HC.out.1 x).1.symm, fun _ => (HC.out.1 x).2.symm⟩, HC.out.2⟩)))), Fr.mk' rfl rfl rfl rfl rfl rfl, HM.out⟩

set_option maxRecDepth 100000 in
set_option maxHeartbeats 1000000 in
theorem rd3mc {w w1 : World} {s : List UInt8} (_ : s.length ≤ 281474976710656) {p q e i dg : Nat} {a : Act} (hE : At1 s p q e) (h1 : dg < i) (hqd : q ≤ dg) (h2 : i ≤ e) {n : Int} (hn : 0 ≤ n ∧ n < 10000) (hk : (i = e → kd (tex s q e) = 2 ∧ num (tex s q e) = -n) ∧ (i < e → kd (tex s q e) = 1)) (hm : ∀ h : q < s.length, s[q] = 45) (hlt : i < s.length) (hd : i < dg + 4) (hc : isD s[i] = false)
    (hF : Fr s w.heap.size (w.heap.size + 1) i dg a) (hM : Mm w w1 0 q 0 n) : Rw w s p (6 * (s.length - i) + 4) 3 a w1 := by
  obtain ⟨u, rfl⟩ := hF
  have hql : q < s.length := Nat.lt_of_lt_of_le hE.some hE.within
  have HE : Hid (At1 s p q e) := hE
  have HC : Hid ((i = e → kd (tex s q e) = 2 ∧ num (tex s q e) = -n) ∧ (i < e → kd (tex s q e) = 1)) := hk
  have HM : Hid (Mm w ((w1.setCell ⟨w.heap.size + 1, 3, none⟩ (.int .i64 (-n))).setCell ⟨w.heap.size + 1, 0, none⟩ (.int .i64 2)) 2 q 0 (-n)) := (hM.set 3 _ rfl).set 0 _ rfl
  obtain ⟨c0, c1, c2, c3, hfz⟩ := hM.cells
  have hf0 := hfz 0
  have hf3 := hfz 3
  obtain ⟨n0, n1⟩ := hn
  clear hE hk hM hfz
  have hqx := at_text s q hql (by simpa [ByteArray.size] using hql)
  rw [hm hql] at hqx
  clear hm
  have i1 : (i : Int) < (s.length : Int) := by omega
  have i0 : (0 : Int) ≤ (i : Int) := by omega
  have i4 : (i : Int) < (dg : Int) + 4 := by omega
  have cl := fun W => isDigit_any (w := W) s[i]
  rw [hc] at cl
  have hx := at_text s i hlt (by simpa [ByteArray.size] using hlt)
  clear hc
  generalize s[i] = c at *
  have g1 : ((i : Int) == (dg : Int)) = false := by simp; omega
  have g0 : (0 : Int) ≤ (q : Int) := by omega
  have gq : (q : Int) < (s.length : Int) := by omega
  refine ⟨_, rfl, ?_⟩
  go_wp2_with fail
  refine Calls.mono (cl _) ?_
  rintro e' w2 ⟨rfl, rfl⟩
  go_wp2_with fail
  go_step3
  exact ⟨_, by omega, i, q, 2, -n, dg, .inr (.inr (.inr (.inr (.inl ⟨rfl, rfl, e, HE.out, by omega, h2, fun x => ⟨(HC.out.1 x).1.symm, fun _ => (HC.out.1 x).2.symm⟩, HC.out.2⟩)))), Fr.mk' rfl rfl rfl rfl rfl rfl, HM.out⟩

set_option maxRecDepth 100000 in
set_option maxHeartbeats 1000000 in
theorem rd2a {w w1 : World} {s : List UInt8} (_ : s.length ≤ 281474976710656) {p q e i dg : Nat} {a : Act} (hE : At1 s p q e) (h1 : q ≤ i) (h2 : i < e) (ha : (tex s q i).all isL = true) (hl : ∀ h : q < s.length, isL s[q] = true) (hlt : i < s.length) (hc : isL s[i] = true)
    (hF : Fr s w.heap.size (w.heap.size + 1) i dg a) (hM : Mm w w1 0 q 0 0) : Rw w s p (6 * (s.length - i) + 3) 2 a w1 := by
  obtain ⟨u, rfl⟩ := hF
  have HE : Hid (At1 s p q e) := hE
  have HL : Hid (∀ h : q < s.length, isL s[q] = true) := hl
  have HA : Hid ((tex s q (i + 1)).all isL = true) := all_tex h1 hlt ha hc
  have HM : Hid (Mm w w1 0 q 0 0) := hM
  have cl := fun W => isLetter_any (w := W) s[i]
  rw [hc] at cl
  have hx := at_text s i hlt (by simpa [ByteArray.size] using hlt)
  clear hE ha hc hl hM
  generalize s[i] = c at *
  have i1 : (i : Int) < (s.length : Int) := by omega
  have i0 : (0 : Int) ≤ (i : Int) := by omega
  refine ⟨_, rfl, ?_⟩
  go_wp2_with fail
  refine Calls.mono (cl _) ?_
  rintro e' w2 ⟨rfl, rfl⟩
  go_wp2_with fail
  go_step3
  exact ⟨_, by omega, i + 1, q, 0, 0, dg, .inr (.inr (.inl ⟨rfl, rfl, e, HE.out, by omega, by omega, HA.out, HL.out, rfl, rfl⟩)), Fr.mk' rfl rfl rfl rfl rfl rfl, HM.out⟩

set_option maxRecDepth 100000 in
set_option maxHeartbeats 1000000 in
theorem rd2b {w w1 : World} {s : List UInt8} (_ : s.length ≤ 281474976710656) {p q e i dg : Nat} {a : Act} (hE : At1 s p q e) (h1 : q < i) (h2 : i ≤ e) (ha : (tex s q i).all isL = true) (hk : (i = e → kd (tex s q e) = kd (tex s q i)) ∧ (i < e → kd (tex s q e) = 1)) (hlt : i = s.length)
    (hF : Fr s w.heap.size (w.heap.size + 1) i dg a) (hM : Mm w w1 0 q 0 0) : Rw w s p (6 * (s.length - i) + 3) 2 a w1 := by
  obtain ⟨u, rfl⟩ := hF
  have hie := Nat.le_trans h2 hE.within
  have HE : Hid (At1 s p q e) := hE
  have HC : Hid ((i = e → kd (tex s q e) = kd (tex s q i)) ∧ (i < e → kd (tex s q e) = 1)) := hk
  have HM : Hid (Mm w (w1.setCell ⟨w.heap.size + 1, 0, none⟩ (.int .i64 (kd (tex s q i) : Nat))) (kd (tex s q i) : Nat) q 0 0) := hM.set 0 _ rfl
  have hne : tex s q i ≠ [] := by
    intro h0
    have := tex_length (q := q) hie
    rw [h0] at this
    simp at this
    omega
  have H2 : Hid (kd (tex s q i) ≠ 2) := by
    show kd (tex s q i) ≠ 2
    intro h
    rw [kd_num, letters_num ha hne] at h
    cases h
  have cs := fun W => spelt_any (w := W) (tex s q i) ha hne
  have hcut := cut_text s q i (Nat.le_of_lt h1) hie
  obtain ⟨c0, c1, c2, c3, hfz⟩ := hM.cells
  have hf0 := hfz 0
  clear hE hk hM hfz ha hne
  have i1 : ¬ (i : Int) < (s.length : Int) := by omega
  have HI : Hid (i = s.length) := hlt
  clear hlt
  generalize tex s q i = x at *
  generalize kd x = kx at *
  refine ⟨_, rfl, ?_⟩
  go_wp2_with fail
  refine Calls.mono (cs _) ?_
  rintro e'' w3 ⟨rfl, rfl⟩
  go_wp2_with fail
  go_step3
  exact ⟨_, by omega, i, q, kx, 0, dg, .inr (.inr (.inr (.inr (.inl ⟨rfl, rfl, e, HE.out, by omega, h2, fun y => ⟨(HC.out.1 y).symm, fun z => absurd z H2.out⟩, HC.out.2⟩)))), Fr.mk' rfl rfl rfl rfl rfl rfl, HM.out⟩

set_option maxRecDepth 100000 in
set_option maxHeartbeats 1000000 in
theorem rd2c {w w1 : World} {s : List UInt8} (_ : s.length ≤ 281474976710656) {p q e i dg : Nat} {a : Act} (hE : At1 s p q e) (h1 : q < i) (h2 : i ≤ e) (ha : (tex s q i).all isL = true) (hk : (i = e → kd (tex s q e) = kd (tex s q i)) ∧ (i < e → kd (tex s q e) = 1)) (hlt : i < s.length) (hc : isL s[i] = false)
    (hF : Fr s w.heap.size (w.heap.size + 1) i dg a) (hM : Mm w w1 0 q 0 0) : Rw w s p (6 * (s.length - i) + 3) 2 a w1 := by
  obtain ⟨u, rfl⟩ := hF
  have hie := Nat.le_trans h2 hE.within
  have HE : Hid (At1 s p q e) := hE
  have HC : Hid ((i = e → kd (tex s q e) = kd (tex s q i)) ∧ (i < e → kd (tex s q e) = 1)) := hk
  have HM : Hid (Mm w (w1.setCell ⟨w.heap.size + 1, 0, none⟩ (.int .i64 (kd (tex s q i) : Nat))) (kd (tex s q i) : Nat) q 0 0) := hM.set 0 _ rfl
  have hne : tex s q i ≠ [] := by
    intro h0
    have := tex_length (q := q) hie
    rw [h0] at this
    simp at this
    omega
  have H2 : Hid (kd (tex s q i) ≠ 2) := by
    show kd (tex s q i) ≠ 2
    intro h
    rw [kd_num, letters_num ha hne] at h
    cases h
  have cs := fun W => spelt_any (w := W) (tex s q i) ha hne
  have hcut := cut_text s q i (Nat.le_of_lt h1) hie
  obtain ⟨c0, c1, c2, c3, hfz⟩ := hM.cells
  have hf0 := hfz 0
  clear hE hk hM hfz ha hne
  have i1 : (i : Int) < (s.length : Int) := by omega
  have i0 : (0 : Int) ≤ (i : Int) := by omega
  have cl := fun W => isLetter_any (w := W) s[i]
  rw [hc] at cl
  have hx := at_text s i hlt (by simpa [ByteArray.size] using hlt)
  clear hc
  generalize s[i] = c at *
  generalize tex s q i = x at *
  generalize kd x = kx at *
  refine ⟨_, rfl, ?_⟩
  go_wp2_with fail
  refine Calls.mono (cl _) ?_
  rintro e' w2 ⟨rfl, rfl⟩
  go_wp2_with fail
  refine Calls.mono (cs _) ?_
  rintro e'' w3 ⟨rfl, rfl⟩
  go_wp2_with fail
  go_step3
  exact ⟨_, by omega, i, q, kx, 0, dg, .inr (.inr (.inr (.inr (.inl ⟨rfl, rfl, e, HE.out, by omega, h2, fun y => ⟨(HC.out.1 y).symm, fun z => absurd z H2.out⟩, HC.out.2⟩)))), Fr.mk' rfl rfl rfl rfl rfl rfl, HM.out⟩

set_option maxRecDepth 100000 in
set_option maxHeartbeats 1000000 in
theorem rd4 {w w1 : World} {s : List UInt8} (_ : s.length ≤ 281474976710656) {p q e i dg k : Nat} {n : Int} {a : Act} (hE : At1 s p q e) (h1 : q ≤ i) (h2 : i ≤ e) (hk : kd (tex s q e) = 1)
    (hF : Fr s w.heap.size (w.heap.size + 1) i dg a) (hM : Mm w w1 (k : Nat) q 0 n) (IH : Ri w s p (6 * (s.length - i) + 2)) : Rw w s p (6 * (s.length - i) + 2) 4 a w1 := by
  obtain ⟨u, rfl⟩ := hF
  have HE : Hid (At1 s p q e) := hE
  have HC : Hid (kd (tex s q e) = 1) := hk
  have HM : Hid (Mm w (w1.setCell ⟨w.heap.size + 1, 0, none⟩ (.int .i64 1)) 1 q 0 n) := hM.set 0 _ rfl
  obtain ⟨c0, c1, c2, c3, hfz⟩ := hM.cells
  have hf0 := hfz 0
  clear hE hk hM hfz
  refine ⟨_, rfl, ?_⟩
  go_wp2_with fail
  go_step3
  iterate 2 (first | go_values | go_skip | go_guarded | go_step | go_upon | go_back)
  refine From.use (IH.out (6 * (s.length - i) + 1) 5 _ _ (by omega) ⟨i, q, 1, n, dg, .inr (.inr (.inr (.inr (.inl ⟨rfl, rfl, e, HE.out, h1, h2, fun _ => ⟨HC.out.symm, fun h => absurd h (by decide)⟩, fun _ => HC.out⟩)))), ?_, ?_⟩) rfl
  · exact Fr.mk' rfl rfl rfl rfl rfl rfl
  · exact HM.out

set_option maxRecDepth 100000 in
set_option maxHeartbeats 1000000 in
theorem rd5a {w w1 : World} {s : List UInt8} (_ : s.length ≤ 281474976710656) {p q e i dg k : Nat} {n : Int} {a : Act} (hE : At1 s p q e) (h1 : q ≤ i) (h2 : i < e) (hk : kd (tex s q e) = 1) (hlt : i < s.length) (hc : s[i] ≠ 32)
    (hF : Fr s w.heap.size (w.heap.size + 1) i dg a) (hM : Mm w w1 (k : Nat) q 0 n) : Rw w s p (6 * (s.length - i) + 1) 5 a w1 := by
  obtain ⟨u, rfl⟩ := hF
  have HE : Hid (At1 s p q e) := hE
  have HC : Hid (kd (tex s q e) = 1) := hk
  have HM : Hid (Mm w w1 (k : Nat) q 0 n) := hM
  have hx := at_text s i hlt (by simpa [ByteArray.size] using hlt)
  have hc' : ((s[i].toNat : Int) == 32) = false := by simp only [beq_eq_false_iff_ne, ne_eq]; intro q; exact hc (UInt8.toNat_inj.1 (by simpa using (by omega : s[i].toNat = 32)))
  clear hE hk hM hc
  generalize s[i] = c at *
  have i1 : (i : Int) < (s.length : Int) := by omega
  have i0 : (0 : Int) ≤ (i : Int) := by omega
  refine ⟨_, rfl, ?_⟩
  go_wp2_with fail
  go_step3
  exact ⟨_, by omega, i + 1, q, k, n, dg, .inr (.inr (.inr (.inl ⟨rfl, rfl, e, HE.out, by omega, by omega, HC.out⟩))), Fr.mk' rfl rfl rfl rfl rfl rfl, HM.out⟩

set_option maxRecDepth 100000 in
set_option maxHeartbeats 1000000 in
theorem rd5b {w w1 : World} {s : List UInt8} (_ : s.length ≤ 281474976710656) {p q e i dg k : Nat} {n : Int} {a : Act} (hE : At1 s p q e) (h2 : i = e) (hk : k = kd (tex s q e) ∧ (k = 2 → n = num (tex s q e))) (hlt : i = s.length)
    (hF : Fr s w.heap.size (w.heap.size + 1) i dg a) (hM : Mm w w1 (k : Nat) q 0 n) (IH : Ri w s p (6 * (s.length - i) + 1)) : Rw w s p (6 * (s.length - i) + 1) 5 a w1 := by
  obtain ⟨u, rfl⟩ := hF
  have HE : Hid (At1 s p q e ∧ i = e ∧ k = kd (tex s q e) ∧ (k = 2 → n = num (tex s q e))) := ⟨hE, h2, hk⟩
  have HM : Hid (Mm w w1 (k : Nat) q 0 n) := hM
  clear hE hk hM h2
  have i1 : ¬ (i : Int) < (s.length : Int) := by omega
  have HI : Hid (i = s.length) := hlt
  clear hlt
  refine ⟨_, rfl, ?_⟩
  go_wp2_with fail
  go_step3
  iterate 2 (first | go_values | go_skip | go_guarded | go_step | go_upon | go_back)
  refine From.use (IH.out (6 * (s.length - i)) 1 _ _ (by omega) ⟨i, q, k, n, dg, .inr (.inr (.inr (.inr (.inr ⟨rfl, rfl, .inr ⟨e, HE.out⟩⟩)))), ?_, ?_⟩) rfl
  · exact Fr.mk' rfl rfl rfl rfl rfl rfl
  · exact HM.out

set_option maxRecDepth 100000 in
set_option maxHeartbeats 1000000 in
theorem rd5c {w w1 : World} {s : List UInt8} (_ : s.length ≤ 281474976710656) {p q e i dg k : Nat} {n : Int} {a : Act} (hE : At1 s p q e) (h2 : i = e) (hk : k = kd (tex s q e) ∧ (k = 2 → n = num (tex s q e))) (hlt : i < s.length) (hc : s[i] = 32)
    (hF : Fr s w.heap.size (w.heap.size + 1) i dg a) (hM : Mm w w1 (k : Nat) q 0 n) (IH : Ri w s p (6 * (s.length - i) + 1)) : Rw w s p (6 * (s.length - i) + 1) 5 a w1 := by
  obtain ⟨u, rfl⟩ := hF
  have HE : Hid (At1 s p q e ∧ i = e ∧ k = kd (tex s q e) ∧ (k = 2 → n = num (tex s q e))) := ⟨hE, h2, hk⟩
  have HM : Hid (Mm w w1 (k : Nat) q 0 n) := hM
  clear hE hk hM h2
  have i1 : (i : Int) < (s.length : Int) := by omega
  have i0 : (0 : Int) ≤ (i : Int) := by omega
  have hx := at_text s i hlt (by simpa [ByteArray.size] using hlt)
  rw [hc] at hx
  clear hc
  refine ⟨_, rfl, ?_⟩
  go_wp2_with fail
  go_step3
  iterate 2 (first | go_values | go_skip | go_guarded | go_step | go_upon | go_back)
  refine From.use (IH.out (6 * (s.length - i)) 1 _ _ (by omega) ⟨i, q, k, n, dg, .inr (.inr (.inr (.inr (.inr ⟨rfl, rfl, .inr ⟨e, HE.out⟩⟩)))), ?_, ?_⟩) rfl
  · exact Fr.mk' rfl rfl rfl rfl rfl rfl
  · exact HM.out

set_option maxRecDepth 100000 in
set_option maxHeartbeats 1000000 in
theorem rd1 {w w1 : World} {s : List UInt8} (_ : s.length ≤ 281474976710656) {p q i dg k : Nat} {n : Int} {a : Act} (hR : Rdq s p k q i n)
    (hF : Fr s w.heap.size (w.heap.size + 1) i dg a) (hM : Mm w w1 (k : Nat) q 0 n) : Rw w s p (6 * (s.length - i)) 1 a w1 := by
  obtain ⟨u, rfl⟩ := hF
  have HR : Hid (Rdq s p k q i n) := hR
  have HM : Hid (Mm w (w1.setCell ⟨w.heap.size + 1, 2, none⟩ (.int .i64 (i : Nat))) (k : Nat) q i n) := hM.set 2 _ rfl
  obtain ⟨c0, c1, c2, c3, hfz⟩ := hM.cells
  have hf2 := hfz 2
  have r0 : w1.cell? ⟨w.heap.size, 0, none⟩ = some (.int .i64 0) := by simp [World.cell?, hM.res]
  have r1 : w1.cell? ⟨w.heap.size, 1, none⟩ = some (.int .i64 0) := by simp [World.cell?, hM.res]
  have r2 : w1.cell? ⟨w.heap.size, 2, none⟩ = some (.int .i64 0) := by simp [World.cell?, hM.res]
  have r3 : w1.cell? ⟨w.heap.size, 3, none⟩ = some (.int .i64 0) := by simp [World.cell?, hM.res]
  have rf : ∀ j, w1.frozen? ⟨w.heap.size, j, none⟩ = false := fun j => by simp [World.frozen?, hM.res]
  have rf0 := rf 0
  have rf1 := rf 1
  have rf2 := rf 2
  have rf3 := rf 3
  clear hR hM hfz rf
  refine ⟨_, rfl, ?_⟩
  go_wp2_with fail
  simp only [Exit.jumps]
  refine bodyPost_ret (results_word rfl _ _ rfl (set_word (set_word (set_word (set_word HM.out.res 0 _) 1 _) 2 _) 3 _)) rfl ⟨⟨k, q, i, n, rfl, HR.out⟩, ?_⟩
  have := HM.out.kept
  refine ⟨this.os, this.tape, this.output, Nat.le_trans this.size (by simp [World.setCell]), fun j hj hp => ?_⟩
  rw [heap_setCell_other _ _ j _ (by simp; omega), heap_setCell_other _ _ j _ (by simp; omega), heap_setCell_other _ _ j _ (by simp; omega), heap_setCell_other _ _ j _ (by simp; omega)]
  exact this.block j hj hp

set_option maxRecDepth 100000 in
set_option maxHeartbeats 1000000 in
theorem read_any {w : World} {s : List UInt8} (hs : s.length ≤ 281474976710656) (p : Nat) (hp : p ≤ s.length) :
    Calls Tryz.prog 169 #[.string ⟨s.toArray⟩, .int .i64 (p : Nat)] w fun e w' => (∃ (k q t : Nat) (n : Int), e = .returned (.agg #[.int .i64 (k : Nat), .int .i64 (q : Nat), .int .i64 (t : Nat), .int .i64 n]) ∧ Rdq s p k q t n) ∧ Kept (fun _ => True) w w' := by
  go_enter Tryz.func169, Tryz.ntmps169
  go_wp2
  refine wp_scope_all (c := scopeIn Tryz.f169.body) (Rj w s p) ?_ ?_
  · rintro m l a w1 ⟨i, q, k, n, dg, hR, hF, hM⟩ IH
    rcases hR with ⟨rfl, rfl, h1, h2, h3, rfl, rfl, rfl, rfl⟩ | ⟨rfl, rfl, e, hE, hD, h1, h2, h4, ha, rfl, rfl⟩ | ⟨rfl, rfl, e, hE, h1, h2, ha, hl, rfl, rfl⟩ | ⟨rfl, rfl, e, hE, h1, h2, hk⟩ | ⟨rfl, rfl, e, hE, h1, h2, hk1, hk2⟩ | ⟨rfl, rfl, hR⟩
    · rcases Nat.lt_or_ge i s.length with hlt | hge
      · by_cases hc : s[i] = 32
        · exact rd0a hs h1 hlt h3 hc hF hM
        · exact rd0c hs h1 hlt h3 hc hF hM IH
      · exact rd0b hs (by omega) h3 hF hM
    · have hql := Nat.lt_of_lt_of_le hE.some hE.within
      have hdq : q ≤ dg := by rcases hD.spot with ⟨x, _⟩ | ⟨x, _⟩ <;> omega
      have hb : (digs (tex s dg i) : Int) < 10000 := by
        have := digs_lt _ ha
        have hl := tex_length (q := dg) (Nat.le_trans h2 hE.within)
        rw [hl] at this
        have := Nat.lt_of_lt_of_le this (Nat.pow_le_pow_right (n := 10) (by decide) (show i - dg ≤ 4 by omega))
        omega
      have out : (i = e ∨ i = dg + 4 ∨ ∃ hi : i < s.length, isD s[i] = false) → ((i = s.length) ∨ (∃ _ : i < s.length, i = dg + 4) ∨ (∃ hi : i < s.length, i < dg + 4 ∧ isD s[i] = false)) → Rw w s p (6 * (s.length - i) + 4) 3 a w1 := by
        intro hd how
        rcases Nat.eq_or_lt_of_le h1 with h0 | h0
        · have hd' : dg = e ∨ ∃ hi : dg < s.length, isD s[dg] = false := by
            subst h0
            rcases hd with hd | hd | hd
            · exact .inl hd
            · omega
            · exact .inr hd
          have hk := hD.none hE hd'
          rcases how with hw | ⟨_, hw⟩ | ⟨hi, hw, hc⟩
          · exact rd3na hs hE (by omega) h2 h0.symm hk hw hF hM
          · omega
          · exact rd3nc hs hE (by omega) h2 h0.symm hk hi hw hc hF hM
        · have hk := hD.some hE h0 h2 h4 ha hd
          rcases hD.spot with ⟨hq, hm⟩ | ⟨hq, hm⟩
          · rw [if_pos hq] at hk
            rcases how with hw | ⟨hi, hw⟩ | ⟨hi, hw, hc⟩
            · exact rd3pa hs hE h0 hdq h2 ⟨by omega, hb⟩ hk hm hw hF hM
            · exact rd3pb hs hE h0 hdq h2 ⟨by omega, hb⟩ hk hm hi hw hF hM
            · exact rd3pc hs hE h0 hdq h2 ⟨by omega, hb⟩ hk hm hi hw hc hF hM
          · rw [if_neg (by omega)] at hk
            rcases how with hw | ⟨hi, hw⟩ | ⟨hi, hw, hc⟩
            · exact rd3ma hs hE h0 hdq h2 ⟨by omega, hb⟩ hk hm hw hF hM
            · exact rd3mb hs hE h0 hdq h2 ⟨by omega, hb⟩ hk hm hi hw hF hM
            · exact rd3mc hs hE h0 hdq h2 ⟨by omega, hb⟩ hk hm hi hw hc hF hM
      rcases hE.out (Nat.le_trans hdq h1) h2 with ⟨hi, h5, h6⟩ | ⟨h5, h6⟩ | ⟨h5, hi, h6⟩
      · by_cases h7 : i = dg + 4
        · exact out (.inr (.inl h7)) (.inr (.inl ⟨hi, h7⟩))
        · by_cases hc : isD s[i] = true
          · exact rd3a hs hE hD h1 h5 (by omega) ha hi hc hF hM
          · have hc' : isD s[i] = false := by simpa using hc
            exact out (.inr (.inr ⟨hi, hc'⟩)) (.inr (.inr ⟨hi, by omega, hc'⟩))
      · exact out (.inl h5) (.inl h6)
      · by_cases h7 : i = dg + 4
        · exact out (.inl h5) (.inr (.inl ⟨hi, h7⟩))
        · exact out (.inl h5) (.inr (.inr ⟨hi, by omega, by rw [h6]; decide⟩))
    · have hql := Nat.lt_of_lt_of_le hE.some hE.within
      have out : (i = e ∨ ∃ hi : i < s.length, isL s[i] = false) → ((i = s.length) ∨ (∃ hi : i < s.length, isL s[i] = false)) → Rw w s p (6 * (s.length - i) + 3) 2 a w1 := by
        intro hd how
        have h0 : q < i := by
          rcases Nat.eq_or_lt_of_le h1 with h0 | h0
          · subst h0
            rcases how with hw | ⟨hi, hw⟩
            · omega
            · rw [hl hi] at hw; cases hw
          · exact h0
        have hk := letters_some hE h0 h2 hl hd
        rcases how with hw | ⟨hi, hw⟩
        · exact rd2b hs hE h0 h2 ha hk hw hF hM
        · exact rd2c hs hE h0 h2 ha hk hi hw hF hM
      rcases hE.out h1 h2 with ⟨hi, h5, h6⟩ | ⟨h5, h6⟩ | ⟨h5, hi, h6⟩
      · by_cases hc : isL s[i] = true
        · exact rd2a hs hE h1 h5 ha hl hi hc hF hM
        · have hc' : isL s[i] = false := by simpa using hc
          exact out (.inr ⟨hi, hc'⟩) (.inr ⟨hi, hc'⟩)
      · exact out (.inl h5) (.inl h6)
      · exact out (.inl h5) (.inr ⟨hi, by rw [h6]; decide⟩)
    · exact rd4 hs hE h1 h2 hk hF hM IH
    · rcases hE.out h1 h2 with ⟨hi, h5, h6⟩ | ⟨h5, h6⟩ | ⟨h5, hi, h6⟩
      · exact rd5a hs hE h1 h5 (hk2 h5) hi h6 hF hM
      · exact rd5b hs hE h5 (hk1 h5) h6 hF hM IH
      · exact rd5c hs hE h5 (hk1 h5) hi h6 hF hM IH
    · refine rd1 hs ?_ hF hM
      rcases hR with ⟨x1, x2, x3, x4⟩ | ⟨e, x1, x2, x3⟩
      · exact .inl ⟨x3, x1, x2, x4⟩
      · subst x2
        exact .inr ⟨x1, x3⟩
  · intro H
    have HH : Hid _ := H
    clear H
    conv => arg 2; whnf
    go_wp2
    go_step3
    iterate 2 (first | go_values | go_skip | go_guarded | go_step | go_upon | go_back)
    refine From.use (HH.out (6 * (s.length - p) + 5) 0 _ _ ⟨p, 0, 0, 0, 0, .inl ⟨rfl, rfl, Nat.le_refl _, hp, rfl, rfl, rfl, rfl, rfl⟩, ?_, ?_⟩) rfl
    · exact Fr.mk' rfl rfl rfl rfl rfl rfl
    · exact ⟨((Kept.refl _ _).alloc _).alloc _, (alloc_two w _ _).1, (alloc_two w _ _).2⟩

end Go.Proofs.YtenejaghgehnoaaGreatDoor

namespace Go.Proofs.YtenejaghgehnoaaGreatDoor
open Go.RowKit

/-- Texts as cells. -/
def srow (ss : List (List UInt8)) : List Value := ss.map fun s => .string ⟨s.toArray⟩
theorem srow_append (a b : List (List UInt8)) : srow (a ++ b) = srow a ++ srow b := by simp [srow]
theorem srow_get (ss : List (List UInt8)) (k : Nat) (h : k < ss.length) : (srow ss)[k]? = some (.string ⟨(ss[k]).toArray⟩) := by simp [srow, h]
theorem srow_one (ss : List (List UInt8)) : ∀ u ∈ srow ss, u.oneCell' = true := by
  intro u hu
  obtain ⟨_, _, rfl⟩ := List.mem_map.1 hu
  rfl

theorem Tryz.infoText : (Tryz.prog.info? 9).map (fun i => (i.zero, i.size, i.bytes)) = some (some (.string ⟨#[]⟩), 1, 16) := by kernel_rfl
/-- A slice of the texts ss, in a row of its own behind 'base'. -/
def Txs (w : World) (base : Nat) (v : Value) (ss : List (List UInt8)) : Prop := w.ownsRow base 9 1 v ss.length (srow ss)
theorem Txs.nil (w : World) (base : Nat) : Txs w base (.slice none 0 0) [] := World.ownsRow_nil _ _ _ _
theorem Txs.kept {p : Nat → Prop} {w w' : World} {base : Nat} {v : Value} {ss : List (List UInt8)} (h : Txs w base v ss) (hk : Kept p w w') (hp : ∀ k, v.ownBlock = some k → p k) : Txs w' base v ss := by
  refine ⟨h.1, ?_⟩
  rcases h.2 with h0 | ⟨g, cap, cur, rfl, hb, hh, rest⟩
  · exact .inl h0
  · exact .inr ⟨g, cap, cur, rfl, hb, (hk.block g (lt_of_block hh) (hp g rfl)).trans hh, rest⟩
theorem Txs.shape {w : World} {base : Nat} {v : Value} {ss : List (List UInt8)} (h : Txs w base v ss) : ∃ ao cap, v = .slice ao ss.length cap ∧ ss.length ≤ cap ∧ (0 < ss.length → ∃ g, ao = some ⟨g, 0, none⟩) := by
  rcases h.2 with ⟨hv, h0⟩ | ⟨g, cap, cur, hv, _, hh, hc, _⟩
  · exact ⟨none, 0, by rw [hv, h0], by omega, fun hp => by omega⟩
  · exact ⟨_, cap, hv, hc, fun _ => ⟨g, rfl⟩⟩
theorem Txs.cell {w : World} {base g n cap : Nat} {ss : List (List UInt8)} (h : Txs w base (.slice (some ⟨g, 0, none⟩) n cap) ss) (k : Nat) (hk : k < ss.length) : w.cell? ⟨g, k, none⟩ = some (.string ⟨(ss[k]).toArray⟩) := by
  obtain ⟨ao, cap', e, _, _⟩ := h.shape
  injection e with e1 e2 e3
  subst e2
  have h' : w.ownsRow base 9 1 (.slice (some ⟨g, 0, none⟩) ss.length cap) ss.length (srow ss) := h
  exact (h'.cellAt k (by omega)).trans (srow_get ss k hk)

theorem own_shape_any {w : World} {b e sz n : Nat} {v : Value} {xs : List Value} (h : w.ownsRow b e sz v n xs) : ∃ ao cap, v = .slice ao n cap := by
  rcases h.2 with ⟨e, rfl⟩ | ⟨g, cap, _, e, _⟩
  · exact ⟨_, _, e⟩
  · exact ⟨_, _, e⟩

/-- An append of one text that lies in a block by itself. -/
theorem append_text (w : World) (ty : TypeId) (base : Nat) (v : Value) (ss : List (List UInt8)) (h : Txs w base v ss) (hb : base ≤ w.heap.size) (G : Nat) (s : List UInt8) (fr : Nat × Nat) (hG : w.heap[G]? = some (.cells #[.string ⟨s.toArray⟩] 9 fr)) (hm : ss.length ≤ 1099511627776) :
    ∃ ao' cap' w', (Builtin.append_ #[31, 31] ty #[v, .slice (some ⟨G, 0, none⟩) 1 1]).run Tryz.prog w = .ok (.slice ao' (ss.length + 1) cap') w' ∧ Txs w' base (.slice ao' (ss.length + 1) cap') (ss ++ [s]) ∧ w.grownBy w' v.ownBlock ∧
      ((Value.slice ao' (ss.length + 1) cap').ownBlock = v.ownBlock ∨ (Value.slice ao' (ss.length + 1) cap').ownBlock = some w.heap.size) := by
  obtain ⟨i, hi, hz0, hz1, hz2⟩ := info_parts Tryz.infoText
  obtain ⟨v', w', hr, h2, h3, _, h5⟩ := run_append_own_at (P := Tryz.prog) w base 31 ty 9 i (.string ⟨#[]⟩) 1 16 Tryz.underlying31 hi hz0 hz1 hz2 rfl (by decide) v ss.length (srow ss) h ⟨G, 0, none⟩ 1 1 (srow [s]) (by simp [srow]) (World.news_of_block (w := w) hG) (srow_one [s]) (by unfold maxLen; omega) (by omega) hb
  obtain ⟨ao', cap', rfl⟩ := own_shape_any h2
  refine ⟨ao', cap', w', hr, ?_, h3, h5⟩
  unfold Txs
  rw [srow_append, List.length_append]
  exact h2

theorem wpList_append_text {w : World} {ops : Array Oper} {rest : List Oper} {o : Oper} {a : Act} {Q : Exit → Act → World → Prop} (hgd : o.guard = none) (sl y : Operand) (ho : o.op = .call { callee := .builtin .append, args := #[sl, y], argTypes := #[31, 31] })
    (base : Nat) (v : Value) (ss : List (List UInt8)) (hs : a.eval sl = v) (h : Txs w base v ss) (hb : base ≤ w.heap.size) (G : Nat) (hy : a.eval y = .slice (some ⟨G, 0, none⟩) 1 1) (s : List UInt8) (fr : Nat × Nat) (hG : w.heap[G]? = some (.cells #[.string ⟨s.toArray⟩] 9 fr)) (hm : ss.length ≤ 1099511627776)
    (hK : ∀ ao' cap' w', Txs w' base (.slice ao' (ss.length + 1) cap') (ss ++ [s]) → w.grownBy w' v.ownBlock → ((Value.slice ao' (ss.length + 1) cap').ownBlock = v.ownBlock ∨ (Value.slice ao' (ss.length + 1) cap').ownBlock = some w.heap.size) → wpList Tryz.prog ops Q rest (a.put o.dst (.slice ao' (ss.length + 1) cap')) w') : wpList Tryz.prog ops Q (o :: rest) a w := by
  refine wpList_plain hgd fun K hK' => ?_
  obtain ⟨ao', cap', w', hr, h2, h3, h4⟩ := append_text w o.type base v ss h hb G s fr hG hm
  unfold Oper.wp execOp
  simp only [ho, resolve, invoke, builtin, Sem.run_bind, Sem.run_pure, Result.andThen_ok, List.map_toArray, List.map_cons, List.map_nil, hs, hy, hr]
  exact hK' _ _ (hK ao' cap' w' h2 h3 h4)

end Go.Proofs.YtenejaghgehnoaaGreatDoor

namespace Go.Proofs.YtenejaghgehnoaaGreatDoor
open Go.RowKit

/-- A slice of texts that is looked at. -/
def Ns (w : World) (v : Value) (ns : List (List UInt8)) : Prop :=
  ∃ ao cap, v = .slice ao ns.length cap ∧ ns.length ≤ 281474976710656 ∧ (0 < ns.length → ∃ b off, ao = some ⟨b, off, none⟩ ∧ b < w.heap.size ∧ ∀ i (h : i < ns.length), w.cell? ⟨b, off + i, none⟩ = some (.string ⟨(ns[i]).toArray⟩))
theorem Ns.all {w w' : World} {v : Value} {ns : List (List UInt8)} (h : Ns w v ns) (k : Kept (fun _ => True) w w') : Ns w' v ns := by
  obtain ⟨ao, cap, e, hl, h⟩ := h
  refine ⟨ao, cap, e, hl, fun h0 => ?_⟩
  obtain ⟨b, off, e, hb, hc⟩ := h h0
  exact ⟨b, off, e, Nat.lt_of_lt_of_le hb k.size, fun i hi => (kept_cell k hb trivial).trans (hc i hi)⟩
/-- A frame without block P, for what was there ahead of it. -/
theorem Kept.fresh {P : Nat} {a b c : World} (h : Kept (fun _ => True) a b) (k : Kept (· ≠ P) b c) (hP : a.heap.size ≤ P) : Kept (fun _ => True) a c :=
  h.then k (fun i hi _ => by omega)
theorem Ns.new {w : World} {g cap : Nat} {ns : List (List UInt8)} {fr : Nat × Nat} (h : w.heap[g]? = some (.cells (srow ns).toArray 9 fr)) (hl : ns.length ≤ 281474976710656) : Ns w (.slice (some ⟨g, 0, none⟩) ns.length cap) ns := by
  refine ⟨_, _, rfl, hl, fun _ => ⟨g, 0, rfl, lt_of_block h, fun i hi => ?_⟩⟩
  rw [cell_of_row w g _ _ _ _ h, Nat.zero_add]
  have := srow_get ns i hi
  simpa using this
theorem Ns.nil (w : World) : Ns w (.slice none 0 0) [] := ⟨none, 0, rfl, by simp, fun h => by simp at h⟩
theorem Txs.ns {w : World} {base : Nat} {v : Value} {ss : List (List UInt8)} (h : Txs w base v ss) (hl : ss.length ≤ 281474976710656) : Ns w v ss := by
  obtain ⟨ao, cap, rfl, hc, hg⟩ := h.shape
  refine ⟨ao, cap, rfl, hl, fun h0 => ?_⟩
  obtain ⟨g, rfl⟩ := hg h0
  refine ⟨g, 0, rfl, ?_, fun i hi => by rw [Nat.zero_add]; exact h.cell i hi⟩
  exact World.block_lt_of_cell? w _ (h.cell 0 h0)

end Go.Proofs.YtenejaghgehnoaaGreatDoor

namespace Go.Proofs.YtenejaghgehnoaaGreatDoor
open Go.RowKit

/-- A slice of numbers that is looked at. -/
def Vi (w : World) (v : Value) (xs : List Int) : Prop :=
  ∃ ao cap, v = .slice ao xs.length cap ∧ (0 < xs.length → ∃ b off, ao = some ⟨b, off, none⟩ ∧ b < w.heap.size ∧ ∀ i (h : i < xs.length), w.cell? ⟨b, off + i, none⟩ = some (.int .i64 (xs[i])))
theorem Vi.all {w w' : World} {v : Value} {xs : List Int} (h : Vi w v xs) (k : Kept (fun _ => True) w w') : Vi w' v xs := by
  obtain ⟨ao, cap, e, h⟩ := h
  refine ⟨ao, cap, e, fun h0 => ?_⟩
  obtain ⟨b, off, e, hb, hc⟩ := h h0
  exact ⟨b, off, e, Nat.lt_of_lt_of_le hb k.size, fun i hi => (kept_cell k hb trivial).trans (hc i hi)⟩

theorem idx_of (ns : List (List UInt8)) (x : List UInt8) (k : Nat) (hk : k < ns.length) (he : ns[k] = x) (hn : ∀ y ∈ ns.take k, y ≠ x) : x ∈ ns ∧ ns.idxOf x = k := by
  refine ⟨he ▸ List.getElem_mem hk, ?_⟩
  induction ns generalizing k with
  | nil => simp at hk
  | cons a l ih =>
    cases k with
    | zero =>
      simp only [List.getElem_cons_zero] at he
      rw [he, List.idxOf_cons_self]
    | succ k =>
      have ha : a ≠ x := hn a (by simp)
      have := ih k (by simpa using hk) (by simpa using he) (fun y hy => hn y (by simp [hy]))
      have hb : (a == x) = false := beq_eq_false_iff_ne.2 ha
      rw [List.idxOf_cons, hb, this]
      rfl
/-- Where x is. -/
def ix (ns : List (List UInt8)) (x : List UInt8) : Int := if x ∈ ns then (ns.idxOf x : Int) else -1

set_option maxRecDepth 100000 in
set_option maxHeartbeats 1000000 in
theorem index_text {w : World} {v : Value} {ns : List (List UInt8)} (h : Ns w v ns) (x : List UInt8) :
    Calls Tryz.prog 186 #[v, .string ⟨x.toArray⟩] w fun e w' => e = .returned (.int .i64 (ix ns x)) ∧ w' = w := by
  obtain ⟨ao, cap, rfl, hl, h⟩ := h
  have H : Hid (0 < ns.length → ∃ b off, ao = some ⟨b, off, none⟩ ∧ b < w.heap.size ∧ ∀ i (h : i < ns.length), w.cell? ⟨b, off + i, none⟩ = some (.string ⟨(ns[i]).toArray⟩)) := h
  clear h
  obtain ⟨Z, hZ⟩ : ∃ Z, Z = ix ns x := ⟨_, rfl⟩
  have HZ : Hid (Z = ix ns x) := hZ
  rw [← hZ]
  clear hZ
  go_enter Tryz.func186, Tryz.ntmps186
  go_wp2_with fail
  go_loop [8] (fun t => ∃ k : Nat, k ≤ ns.length ∧ t = .int .i64 k ∧ ∀ y ∈ ns.take k, y ≠ x) (fun t => ns.length - (intOf t).toNat)
  case atStart => exact ⟨0, Nat.zero_le _, rfl, by simp⟩
  case round =>
    obtain ⟨k, hk, rfl, hn⟩ := hrel
    have HN : Hid (∀ y ∈ ns.take k, y ≠ x) := hn
    clear hn
    by_cases hlt : k < ns.length
    · obtain ⟨b, off, rfl, hb, hc⟩ := H.out (by omega)
      have q1 := hc k hlt
      have HS : Hid (ns.take (k + 1) = ns.take k ++ [ns[k]]) := List.take_succ_eq_append_getElem hlt
      have HP : Hid (ns[k] = x → ix ns x = k) := fun he => by
        obtain ⟨h1, h2⟩ := idx_of ns x k hlt he HN.out
        rw [ix, if_pos h1, h2]
      have i1 : (k : Int) < (ns.length : Int) := by omega
      have i0 : (0 : Int) ≤ (k : Int) := by omega
      clear hc hb
      generalize ns[k] = y at *
      by_cases he : y = x
      · subst he
        have e1 : Hid (Z = k) := HZ.out.trans (HP.out rfl)
        go_wp2_with fail
        go_ret
        exact ⟨by rw [e1.out]; rfl, rfl⟩
      · have hne : (x == y) = false := beq_eq_false_iff_ne.2 (Ne.symm he)
        have HE : Hid (y ≠ x) := he
        clear he
        go_wp2_with fail
        go_round
        case rel =>
          refine ⟨k + 1, by omega, by go_num, fun z hz => ?_⟩
          rw [HS.out] at hz
          rcases List.mem_append.1 hz with hz | hz
          · exact HN.out z hz
          · rw [List.mem_singleton.1 hz]; exact HE.out
        case measure => simp [intOf]; omega
    · have i1 : ¬ ((k : Int) < (ns.length : Int)) := by omega
      have e1 : ix ns x = -1 := by
        rw [ix, if_neg]
        intro hx
        refine HN.out x ?_ rfl
        rw [List.take_of_length_le (by omega)]
        exact hx
      replace e1 : Hid (Z = -1) := HZ.out.trans e1
      go_wp2_with fail
      go_ret
      exact ⟨by rw [e1.out]; rfl, rfl⟩

theorem ix_mem (ns : List (List UInt8)) (x : List UInt8) : decide (0 ≤ ix ns x) = decide (x ∈ ns) := by
  unfold ix
  split <;> simp_all

set_option maxHeartbeats 400000 in
theorem contains_text {w : World} {v : Value} {ns : List (List UInt8)} (h : Ns w v ns) (x : List UInt8) :
    Calls Tryz.prog 160 #[v, .string ⟨x.toArray⟩] w fun e w' => e = .returned (.bool (decide (x ∈ ns))) ∧ w' = w := by
  have cs := index_text h x
  have hm := ix_mem ns x
  obtain ⟨ao, cap, rfl, hl, h⟩ := h
  clear h
  rw [← hm]
  clear hm
  generalize ix ns x = z at *
  go_enter Tryz.func160, Tryz.ntmps160
  go_wp2_with fail
  refine Calls.mono cs ?_
  rintro e w1 ⟨rfl, rfl⟩
  go_wp2_with fail
  go_ret
  exact ⟨rfl, rfl⟩

set_option maxRecDepth 100000 in
set_option maxHeartbeats 1000000 in
theorem refuse_any {w : World} {v : Value} {ns : List (List UInt8)} (h : Ns w v ns) {s : List UInt8} (_ : s.length ≤ 281474976710656) (k q t : Nat) (n : Int) (hq : q ≤ t) (ht : t ≤ s.length) :
    Calls Tryz.prog 189 #[.string ⟨s.toArray⟩, v, .agg #[.int .i64 (k : Nat), .int .i64 (q : Nat), .int .i64 (t : Nat), .int .i64 n]] w fun e w' => e = .returned (.int .i64 (rfk ns k (tex s q t) : Nat)) ∧ Kept (fun _ => True) w w' := by
  have k1 : ∀ o : Obj, Kept (fun _ => True) w (w.alloc o) := fun o => (Kept.refl _ _).alloc _
  have HK : Hid (∀ o : Obj, Kept (fun _ => True) w (w.alloc o)) := k1
  have HC : Hid (∀ o : Obj, Calls Tryz.prog 160 #[v, .string ⟨(tex s q t).toArray⟩] (w.alloc o) fun e w' => e = .returned (.bool (decide (tex s q t ∈ ns))) ∧ w' = w.alloc o) := fun o => contains_text (h.all (k1 o)) _
  have hcut := cut_text s q t hq ht
  obtain ⟨ao, cap, rfl, hl, h⟩ := h
  clear h k1
  unfold rfk
  by_cases h0 : k = 0
  · subst h0
    rw [if_pos rfl]
    go_enter Tryz.func189, Tryz.ntmps189
    go_wp2_with fail
    go_ret
    exact ⟨rfl, HK.out _⟩
  · rw [if_neg h0]
    by_cases h1 : k = 1
    · subst h1
      rw [if_pos rfl]
      go_enter Tryz.func189, Tryz.ntmps189
      go_wp2_with fail
      go_ret
      exact ⟨rfl, HK.out _⟩
    · rw [if_neg h1]
      by_cases h3 : k = 3
      · subst h3
        generalize tex s q t = x at *
        by_cases hx : x ∈ ns
        · rw [if_neg (fun h => h.2 hx)]
          have hd : decide (x ∈ ns) = true := decide_eq_true hx
          rw [hd] at HC
          clear hd hx
          go_enter Tryz.func189, Tryz.ntmps189
          go_wp2_with fail
          refine Calls.mono (HC.out _) ?_
          rintro e w1 ⟨rfl, rfl⟩
          go_wp2_with fail
          go_ret
          exact ⟨rfl, HK.out _⟩
        · rw [if_pos ⟨rfl, hx⟩]
          have hd : decide (x ∈ ns) = false := decide_eq_false hx
          rw [hd] at HC
          clear hd hx
          go_enter Tryz.func189, Tryz.ntmps189
          go_wp2_with fail
          refine Calls.mono (HC.out _) ?_
          rintro e w1 ⟨rfl, rfl⟩
          go_wp2_with fail
          go_ret
          exact ⟨rfl, HK.out _⟩
      · rw [if_neg (fun h => h3 h.1)]
        have g0 : ((k : Int) == 0) = false := by simp; omega
        have g1 : ((k : Int) == 1) = false := by simp; omega
        have g3 : ((k : Int) == 3) = false := by simp; omega
        go_enter Tryz.func189, Tryz.ntmps189
        go_wp2_with fail
        go_ret
        exact ⟨rfl, HK.out _⟩

end Go.Proofs.YtenejaghgehnoaaGreatDoor

namespace Go.Proofs.YtenejaghgehnoaaGreatDoor
open Go.RowKit

theorem rf_small (ns : List (List UInt8)) (x : List UInt8) : rf ns x = 0 ∨ rf ns x = 12 ∨ rf ns x = 20 := by
  rcases rf_cases ns x with h | h | h
  · exact .inr (.inl h.2)
  · exact .inr (.inr h.2.2)
  · exact .inl h.2.2
/-- What look answers. -/
def LkR (ns : List (List UInt8)) (s : List UInt8) (f p c q : Nat) : Prop :=
  (lk ns s.length f (Wo s p) = .inl (c, q) ∧ c ≠ 0) ∨ (c = 0 ∧ q ≤ s.length ∧ lk ns s.length f (Wo s p) = .inr (Wo s q))
theorem Rdq.bounds {s : List UInt8} {p k q t : Nat} {n : Int} (h : Rdq s p k q t n) : q ≤ t ∧ t ≤ s.length ∧ k ≤ 10 := by
  rcases h with ⟨rfl, rfl, rfl, _⟩ | ⟨h, rfl, _⟩
  · exact ⟨Nat.le_refl _, Nat.le_refl _, by omega⟩
  · exact ⟨Nat.le_of_lt h.some, h.within, (kd_cases _).2⟩
theorem Rdq.none {s : List UInt8} {p k q t : Nat} {n : Int} (h : Rdq s p k q t n) (hk : k = 0) : q = s.length ∧ Wo s p = [] := by
  rcases h with ⟨_, h1, _, h2⟩ | ⟨_, h, _⟩
  · exact ⟨h1, h2⟩
  · have := kd_cases (tex s q t)
    omega
theorem Rdq.some {s : List UInt8} {p k q t : Nat} {n : Int} (h : Rdq s p k q t n) (hk : k ≠ 0) : k = kd (tex s q t) ∧ Wo s p = (q, tex s q t) :: Wo s t := by
  rcases h with ⟨h, _⟩ | ⟨h1, h2, _⟩
  · omega
  · exact ⟨h2, h1.words⟩

theorem word_cells {w : World} {b : Nat} {x y z u : Value} {t : TypeId} {fr : Nat × Nat} (h : w.heap[b]? = some (.cells #[x, y, z, u] t fr)) :
    w.cell? ⟨b, 0, none⟩ = some x ∧ w.cell? ⟨b, 1, none⟩ = some y ∧ w.cell? ⟨b, 2, none⟩ = some z ∧ w.cell? ⟨b, 3, none⟩ = some u := ⟨by simp [World.cell?, h], by simp [World.cell?, h], by simp [World.cell?, h], by simp [World.cell?, h]⟩
theorem times_succ {α β : Type} (g : List α → β ⊕ List α) (k : Nat) (ws r : List α) (h : g ws = .inr r) : times g (k + 1) ws = times g k r := by simp [times, h]
theorem times_fail {α β : Type} (g : List α → β ⊕ List α) (k : Nat) (ws : List α) (e : β) (h : g ws = .inl e) : times g (k + 1) ws = .inl e := by simp [times, h]

set_option maxRecDepth 100000 in
set_option maxHeartbeats 2000000 in
theorem look_any {v : Value} {ns : List (List UInt8)} {s : List UInt8} (hs : s.length ≤ 281474976710656) (f : Nat) : ∀ {w : World} (_ : Ns w v ns) (p deep : Nat) (_ : p ≤ s.length) (_ : deep + f = 17),
    Calls Tryz.prog 188 #[.string ⟨s.toArray⟩, v, .int .i64 (p : Nat), .int .i64 (deep : Nat)] w fun e w' => (∃ c q : Nat, e = .returned (.tuple #[.int .i64 (c : Nat), .int .i64 (q : Nat)]) ∧ LkR ns s f p c q) ∧ Kept (fun _ => True) w w' := by
  induction f with
  | zero =>
    intro w h p deep hp hf
    have HN : Hid (Ns w v ns) := h
    have HS : Hid (s.length ≤ 281474976710656) := hs
    have cr := read_any (w := w) hs p hp
    obtain ⟨ao, cap, rfl, -⟩ := h
    have hf16 : (16 : Int) < (deep : Int) := by omega
    go_enter Tryz.func188, Tryz.ntmps188
    go_wp2_with fail
    refine Calls.mono cr ?_
    rintro e w1 ⟨⟨k, q, t, n, rfl, hR⟩, k1⟩
    obtain ⟨b1, b2, b3⟩ := hR.bounds
    have HR : Hid (Rdq s p k q t n) := hR
    have ka : Kept (fun _ => True) w (w1.alloc (.cells #[.int .i64 (k : Nat), .int .i64 (q : Nat), .int .i64 (t : Nat), .int .i64 n] 236)) := k1.alloc _
    have HK : Hid _ := ka
    have HB : Hid _ := heap_alloc_new w1 (.cells #[.int .i64 (k : Nat), .int .i64 (q : Nat), .int .i64 (t : Nat), .int .i64 n] 236)
    have cf := refuse_any (HN.out.all ka) hs k q t n b1 b2
    clear cr hR ka k1
    go_wp2_with fail
    refine Calls.mono cf ?_
    rintro e w2 ⟨rfl, k2⟩
    clear cf
    obtain ⟨z0, z1, z2, z3⟩ := word_cells (((k2.block w1.heap.size (by simp) trivial).trans HB.out))
    have HK2 : Hid (Kept (fun _ => True) w w2) := HK.out.trans k2
    clear k2 HK HB
    generalize w1.heap.size = G at *
    by_cases h0 : rfk ns k (tex s q t) = 0
    · have HP : Hid (LkR ns s 0 p 22 q) := by
        have hk : k ≠ 0 := by rintro rfl; simp [rfk] at h0
        obtain ⟨e1, e2⟩ := HR.out.some hk
        have hr : rf ns (tex s q t) = 0 := by rw [rf, ← e1]; exact h0
        refine .inl ⟨?_, by decide⟩
        rw [e2]
        simp [lk, hr]
      rw [h0]
      clear h0
      go_wp2_with fail
      go_quiet (fail)
      go_wp2_with fail
      go_ret2
      exact ⟨⟨22, q, rfl, HP.out⟩, HK2.out.drewN _⟩
    · have HP : Hid (LkR ns s 0 p (rfk ns k (tex s q t)) q) := by
        refine .inl ⟨?_, h0⟩
        by_cases hk : k = 0
        · obtain ⟨e1, e2⟩ := HR.out.none hk
          rw [e2, e1, hk]
          rfl
        · obtain ⟨e1, e2⟩ := HR.out.some hk
          have hr : rf ns (tex s q t) ≠ 0 := by rw [rf, ← e1]; exact h0
          rw [e2]
          simp only [lk, if_pos hr]
          rw [rf, ← e1]
      generalize rfk ns k (tex s q t) = c at *
      have hc : ((c : Int) == 0) = false := by simp; omega
      clear h0
      go_wp2_with fail
      go_quiet (fail)
      go_wp2_with fail
      go_ret2
      exact ⟨⟨c, q, rfl, HP.out⟩, HK2.out.drewN _⟩
  | succ f ih =>
    intro w h p deep hp hf
    have HI : Hid (∀ {w : World} (_ : Ns w v ns) (p deep : Nat) (_ : p ≤ s.length) (_ : deep + f = 17),
      Calls Tryz.prog 188 #[.string ⟨s.toArray⟩, v, .int .i64 (p : Nat), .int .i64 (deep : Nat)] w fun e w' => (∃ c q : Nat, e = .returned (.tuple #[.int .i64 (c : Nat), .int .i64 (q : Nat)]) ∧ LkR ns s f p c q) ∧ Kept (fun _ => True) w w') := ih
    clear ih
    have HN : Hid (Ns w v ns) := h
    have HS : Hid (s.length ≤ 281474976710656) := hs
    have cr := read_any (w := w) hs p hp
    obtain ⟨ao, cap, rfl, -⟩ := h
    have hf16 : ¬ (16 : Int) < (deep : Int) := by omega
    have hf1 : deep + 1 + f = 17 := by omega
    have HF : Hid (deep + 1 + f = 17) := hf1
    have hd : deep ≤ 16 := by omega
    clear hf hf1
    go_enter Tryz.func188, Tryz.ntmps188
    go_wp2_with fail
    refine Calls.mono cr ?_
    rintro e w1 ⟨⟨k, q, t, n, rfl, hR⟩, k1⟩
    obtain ⟨b1, b2, b3⟩ := hR.bounds
    have HR : Hid (Rdq s p k q t n) := hR
    have ka : Kept (fun _ => True) w (w1.alloc (.cells #[.int .i64 (k : Nat), .int .i64 (q : Nat), .int .i64 (t : Nat), .int .i64 n] 236)) := k1.alloc _
    have HK : Hid _ := ka
    have HB : Hid _ := heap_alloc_new w1 (.cells #[.int .i64 (k : Nat), .int .i64 (q : Nat), .int .i64 (t : Nat), .int .i64 n] 236)
    have cf := refuse_any (HN.out.all ka) hs k q t n b1 b2
    clear cr hR ka k1
    go_wp2_with fail
    refine Calls.mono cf ?_
    rintro e w2 ⟨rfl, k2⟩
    clear cf
    obtain ⟨z0, z1, z2, z3⟩ := word_cells (((k2.block w1.heap.size (by simp) trivial).trans HB.out))
    have HK2 : Hid (Kept (fun _ => True) w w2) := HK.out.trans k2
    clear k2 HK HB
    generalize w1.heap.size = G at *
    by_cases h0 : rfk ns k (tex s q t) = 0
    · have HP : Hid (lk ns s.length (f + 1) (Wo s p) = times (lk ns s.length f) (ar k) (Wo s t)) := by
        have hk : k ≠ 0 := by rintro rfl; simp [rfk] at h0
        obtain ⟨e1, e2⟩ := HR.out.some hk
        have hr : rf ns (tex s q t) = 0 := by rw [rf, ← e1]; exact h0
        show _ = _
        rw [e2]
        simp [lk, hr, ← e1]
      rw [h0]
      clear h0
      have cp := fun W => parts_any (w := W) k b3
      have har : ar k ≤ 2 := by unfold ar; split <;> (try split) <;> omega
      go_wp2_with fail
      refine Calls.mono (cp _) ?_
      rintro e w3 ⟨rfl, rfl⟩
      clear cp
      generalize ar k = A at *
      go_wp2_with fail
      go_loopw [2, 12, 13, 35] (fun t2 _ _ t35 wr => ∃ i p' : Nat, i ≤ A ∧ p' ≤ s.length ∧ t2 = .int .i64 (p' : Nat) ∧ t35 = .int .i64 (i : Nat) ∧ lk ns s.length (f + 1) (Wo s p) = times (lk ns s.length f) (A - i) (Wo s p') ∧ Kept (fun _ => True) w wr) (fun _ _ _ t35 _ => A - (intOf t35).toNat)
      case atStart => exact ⟨0, t, Nat.zero_le _, b2, rfl, rfl, HP.out, HK2.out⟩
      case round =>
        obtain ⟨i, p', hi, hp', rfl, rfl, hP, hk⟩ := hrel
        have HPi : Hid (lk ns s.length (f + 1) (Wo s p) = times (lk ns s.length f) (A - i) (Wo s p')) := hP
        have HKi : Hid (Kept (fun _ => True) w wr) := hk
        clear hP hk
        by_cases hlt : i < A
        · have i1 : (i : Int) < (A : Int) := by omega
          have cl := HI.out (HN.out.all HKi.out) p' (deep + 1) hp' HF.out
          have e1 : ((deep + 1 : Nat) : Int) = (deep : Int) + 1 := by omega
          rw [e1] at cl
          go_wp2_with fail
          refine Calls.mono cl ?_
          rintro e w4 ⟨⟨c, q', rfl, hL⟩, k4⟩
          clear cl
          have HL : Hid (LkR ns s f p' c q') := hL
          have HK4 : Hid (Kept (fun _ => True) w w4) := HKi.out.trans k4
          clear hL k4
          by_cases hc : c = 0
          · subst hc
            go_wp2_with fail
            go_roundw
            case rel =>
              rcases HL.out with ⟨_, h9⟩ | ⟨_, h8, h9⟩
              · exact absurd rfl h9
              · refine ⟨i + 1, q', by omega, h8, rfl, by go_num, ?_, HK4.out⟩
                rw [HPi.out]
                have e2 : A - i = (A - (i + 1)) + 1 := by omega
                rw [e2, times_succ _ _ _ _ h9]
            case measure => simp [intOf]; omega
          · have hc' : ((c : Int) == 0) = false := by simp; omega
            have HC : Hid (c ≠ 0) := hc
            clear hc
            go_wp2_with fail
            go_ret2
            refine ⟨⟨c, q', rfl, ?_⟩, HK4.out⟩
            rcases HL.out with ⟨h8, h9⟩ | ⟨h8, _⟩
            · refine .inl ⟨?_, h9⟩
              rw [HPi.out]
              have e2 : A - i = (A - (i + 1)) + 1 := by omega
              rw [e2, times_fail _ _ _ _ h8]
            · exact absurd h8 HC.out
        · have i1 : ¬ (i : Int) < (A : Int) := by omega
          go_wp2_with fail
          go_ret2
          refine ⟨⟨0, p', rfl, .inr ⟨rfl, hp', ?_⟩⟩, HKi.out⟩
          rw [HPi.out]
          have e2 : A - i = 0 := by omega
          rw [e2]
          rfl
    · have HP : Hid (LkR ns s (f + 1) p (rfk ns k (tex s q t)) q) := by
        refine .inl ⟨?_, h0⟩
        by_cases hk : k = 0
        · obtain ⟨e1, e2⟩ := HR.out.none hk
          rw [e2, e1, hk]
          rfl
        · obtain ⟨e1, e2⟩ := HR.out.some hk
          have hr : rf ns (tex s q t) ≠ 0 := by rw [rf, ← e1]; exact h0
          rw [e2]
          simp only [lk, if_pos hr]
          rw [rf, ← e1]
      generalize rfk ns k (tex s q t) = c at *
      have hc : ((c : Int) == 0) = false := by simp; omega
      clear h0
      go_wp2_with fail
      go_quiet (fail)
      go_wp2_with fail
      go_ret2
      exact ⟨⟨c, q, rfl, HP.out⟩, HK2.out.drewN _⟩

end Go.Proofs.YtenejaghgehnoaaGreatDoor

namespace Go.Proofs.YtenejaghgehnoaaGreatDoor
open Go.RowKit

theorem chk_long {ns : List (List UInt8)} {s : List UInt8} (h : 120 < s.length) : chk ns s = (3, 0) := if_pos h
theorem chk_fail {ns : List (List UInt8)} {s : List UInt8} (h : ¬ 120 < s.length) {c q : Nat} (hl : lk ns s.length 17 (Wo s 0) = .inl (c, q)) : chk ns s = (c, q) := by
  rw [chk, if_neg h, chkW, hl]
theorem chk_whole {ns : List (List UInt8)} {s : List UInt8} (h : ¬ 120 < s.length) {r : List (Nat × List UInt8)} (hl : lk ns s.length 17 (Wo s 0) = .inr r) : chk ns s = tailOf ns r := by
  rw [chk, if_neg h, chkW, hl]

set_option maxRecDepth 100000 in
set_option maxHeartbeats 2000000 in
theorem check_any {w : World} {v : Value} {ns : List (List UInt8)} (h : Ns w v ns) {s : List UInt8} (hs : s.length ≤ 281474976710656) :
    Calls Tryz.prog 163 #[.string ⟨s.toArray⟩, v] w fun e w' => e = .returned (.tuple #[.int .i64 ((chk ns s).1 : Nat), .int .i64 ((chk ns s).2 : Nat)]) ∧ Kept (fun _ => True) w w' := by
  have HN : Hid (Ns w v ns) := h
  have HS : Hid (s.length ≤ 281474976710656) := hs
  have cl := look_any hs 17 h 0 0 (Nat.zero_le _) rfl
  obtain ⟨ao, cap, rfl, -⟩ := h
  obtain ⟨C, hC⟩ : ∃ C, C = chk ns s := ⟨_, rfl⟩
  have HC : Hid (C = chk ns s) := hC
  rw [← hC]
  clear hC
  by_cases hl : 120 < s.length
  · have hl' : (120 : Int) < (s.length : Int) := by omega
    have e1 := HC.out.trans (chk_long hl)
    subst e1
    clear cl
    go_enter Tryz.func163, Tryz.ntmps163
    go_wp2_with fail
    go_ret2
    exact ⟨rfl, Kept.refl _ _⟩
  · have hl' : ¬ (120 : Int) < (s.length : Int) := by omega
    go_enter Tryz.func163, Tryz.ntmps163
    go_wp2_with fail
    refine Calls.mono cl ?_
    rintro e w1 ⟨⟨c, q, rfl, hL⟩, k1⟩
    clear cl
    have HL : Hid (LkR ns s 17 0 c q) := hL
    have HK : Hid (Kept (fun _ => True) w w1) := k1
    clear hL k1
    by_cases hc : c = 0
    · subst hc
      obtain ⟨hq, hlk⟩ : q ≤ s.length ∧ lk ns s.length 17 (Wo s 0) = .inr (Wo s q) := by
        rcases HL.out with ⟨_, h9⟩ | ⟨_, h8, h9⟩
        · exact absurd rfl h9
        · exact ⟨h8, h9⟩
      have HT : Hid (C = tailOf ns (Wo s q)) := HC.out.trans (chk_whole hl hlk)
      have cr := read_any (w := w1) hs q hq
      clear hlk
      go_wp2_with fail
      refine Calls.mono cr ?_
      rintro e w2 ⟨⟨k, q2, t, n, rfl, hR⟩, k2⟩
      obtain ⟨b1, b2, b3⟩ := hR.bounds
      have HR : Hid (Rdq s q k q2 t n) := hR
      have ka : Kept (fun _ => True) w (w2.alloc (.cells #[.int .i64 (k : Nat), .int .i64 (q2 : Nat), .int .i64 (t : Nat), .int .i64 n] 236)) := (HK.out.trans k2).alloc _
      have HK2 : Hid _ := ka
      have HB : Hid _ := heap_alloc_new w2 (.cells #[.int .i64 (k : Nat), .int .i64 (q2 : Nat), .int .i64 (t : Nat), .int .i64 n] 236)
      have cf := refuse_any (HN.out.all ka) hs k q2 t n b1 b2
      clear cr hR ka k2
      by_cases h0 : k = 0
      · have e1 : Hid (C = (0, 0)) := by
          show C = (0, 0)
          rw [HT.out, (HR.out.none h0).2]
          rfl
        subst h0
        clear cf
        go_wp2_with fail
        go_ret2
        exact ⟨by rw [e1.out]; rfl, HK2.out⟩
      · have h0' : ((k : Int) == 0) = false := by simp; omega
        have HT2 : Hid (C = (if rf ns (tex s q2 t) ≠ 0 then rf ns (tex s q2 t) else 11, q2) ∧ rfk ns k (tex s q2 t) = rf ns (tex s q2 t)) := by
          obtain ⟨e1, e2⟩ := HR.out.some h0
          refine ⟨?_, by rw [rf, ← e1]⟩
          rw [HT.out, e2]
          rfl
        rw [HT2.out.2] at cf
        clear h0
        generalize rf ns (tex s q2 t) = r at *
        go_wp2_with fail
        refine Calls.mono cf ?_
        rintro e w3 ⟨rfl, k3⟩
        clear cf
        obtain ⟨z0, z1, z2, z3⟩ := word_cells (((k3.block w2.heap.size (by simp) trivial).trans HB.out))
        have HK3 : Hid (Kept (fun _ => True) w w3) := HK2.out.trans k3
        clear k3 HK2 HB
        generalize w2.heap.size = G at *
        by_cases hr : r = 0
        · subst hr
          have e1 : Hid (C = (11, q2)) := HT2.out.1
          go_wp2_with fail
          go_quiet (fail)
          go_wp2_with fail
          go_ret2
          exact ⟨by rw [e1.out]; rfl, HK3.out.drewN _⟩
        · have e1 : Hid (C = (r, q2)) := by
            show C = (r, q2)
            rw [HT2.out.1, if_pos hr]
          have hr' : ((r : Int) == 0) = false := by simp; omega
          clear hr
          go_wp2_with fail
          go_quiet (fail)
          go_wp2_with fail
          go_ret2
          exact ⟨by rw [e1.out]; rfl, HK3.out.drewN _⟩
    · have hc' : ((c : Int) == 0) = false := by simp; omega
      have e1 : Hid (C = (c, q)) := by
        show C = (c, q)
        rcases HL.out with ⟨h9, _⟩ | ⟨h8, _⟩
        · exact HC.out.trans (chk_fail hl h9)
        · exact absurd h8 hc
      clear hc
      go_wp2_with fail
      go_ret2
      exact ⟨by rw [e1.out]; rfl, HK.out⟩

/-- When the first word is the whole text, and a name. -/
theorem name_read {s : List UInt8} {k q t : Nat} {n : Int} (h : Rdq s 0 k q t n) : isName s = (decide (k = 3) && decide (q = 0) && decide (t = s.length)) := by
  by_cases hn : isName s = true
  · rw [hn]
    obtain ⟨h1, h2, _⟩ := isName_all hn
    have hw : ∀ c ∈ tex s 0 s.length, c ≠ 32 := by
      rw [tex_all]
      intro c hc
      exact (isL_not (List.all_eq_true.1 h1 c hc)).2.1
    have hW := Wo_word (s := s) (q := 0) (e := s.length) h2 (Nat.le_refl _) hw (fun h => absurd h (Nat.lt_irrefl _))
    rw [tex_all] at hW
    rcases h with ⟨_, _, _, h4⟩ | ⟨h3, h4, _⟩
    · rw [h4] at hW; cases hW
    · have := h3.words
      rw [hW] at this
      simp only [List.cons.injEq, Prod.mk.injEq] at this
      obtain ⟨⟨e1, e2⟩, _⟩ := this
      have e3 : t = s.length := by
        have := congrArg List.length e2
        rw [tex_length h3.within] at this
        omega
      rw [← e2, (kd_name s).2 hn] at h4
      simp [h4, ← e1, e3]
  · have hn' : isName s = false := by simpa using hn
    rw [hn']
    symm
    rw [← Bool.not_eq_true]
    intro hx
    simp only [Bool.and_eq_true, decide_eq_true_eq] at hx
    obtain ⟨⟨rfl, rfl⟩, rfl⟩ := hx
    obtain ⟨e1, _⟩ := h.some (by decide)
    rw [tex_all] at e1
    exact hn ((kd_name s).1 e1.symm)

set_option maxRecDepth 100000 in
set_option maxHeartbeats 1000000 in
theorem name_any {w : World} {s : List UInt8} (hs : s.length ≤ 281474976710656) :
    Calls Tryz.prog 131 #[.string ⟨s.toArray⟩] w fun e w' => e = .returned (.bool (isName s)) ∧ Kept (fun _ => True) w w' := by
  have cr := read_any (w := w) hs 0 (Nat.zero_le _)
  obtain ⟨C, hC⟩ : ∃ C, C = isName s := ⟨_, rfl⟩
  have HC : Hid (C = isName s) := hC
  rw [← hC]
  clear hC
  go_enter Tryz.func131, Tryz.ntmps131
  go_wp2_with fail
  refine Calls.mono cr ?_
  rintro e w1 ⟨⟨k, q, t, n, rfl, hR⟩, k1⟩
  clear cr
  have HR : Hid (C = (decide (k = 3) && decide (q = 0) && decide (t = s.length))) := HC.out.trans (name_read hR)
  clear hR
  by_cases h1 : k = 3
  · subst h1
    by_cases h2 : q = 0
    · subst h2
      by_cases h3 : t = s.length
      · have h3' : (t : Int) = (s.length : Int) := by omega
        go_wp2_with fail
        go_ret
        refine ⟨?_, k1.alloc _⟩
        rw [HR.out]
        simp [h3]
      · have h3' : ((t : Int) == (s.length : Int)) = false := by simp; omega
        go_wp2_with fail
        go_ret
        refine ⟨?_, k1.alloc _⟩
        rw [HR.out]
        simp [h3]
    · have h2' : ((q : Int) == 0) = false := by simp; omega
      go_wp2_with fail
      go_ret
      refine ⟨?_, k1.alloc _⟩
      rw [HR.out]
      simp [h2]
  · have h1' : ((k : Int) == 3) = false := by simp; omega
    go_wp2_with fail
    go_ret
    refine ⟨?_, k1.alloc _⟩
    rw [HR.out]
    simp [h1]

end Go.Proofs.YtenejaghgehnoaaGreatDoor

namespace Go.Proofs.YtenejaghgehnoaaGreatDoor
open Go.RowKit

set_option maxHeartbeats 1000000 in
theorem join_any {w : World} (k : Nat) (h1 : 5 ≤ k) (h2 : k ≤ 10) (a b : Int) :
    Calls Tryz.prog 258 #[.int .i64 (k : Nat), .int .i64 a, .int .i64 b] w fun e w' => e = .returned (.int .i64 (jn k a b)) ∧ w' = w := by
  have ct := fun W b => truth_any (w := W) b
  have hk : k = 5 ∨ k = 6 ∨ k = 7 ∨ k = 8 ∨ k = 9 ∨ k = 10 := by omega
  rcases hk with rfl | rfl | rfl | rfl | rfl | rfl
  · have e : jn 5 a b = tr (decide (a ≠ 0 ∧ b ≠ 0)) := rfl
    rw [e]
    by_cases ha : a = 0
    · subst ha
      go_enter Tryz.func258, Tryz.ntmps258
      go_wp2_with fail
      refine Calls.mono (ct _ _) ?_
      rintro e w1 ⟨rfl, rfl⟩
      go_wp2_with fail
      go_ret
      exact ⟨by simp, rfl⟩
    · have ha' : (a == 0) = false := by simpa using ha
      by_cases hb : b = 0
      · subst hb
        go_enter Tryz.func258, Tryz.ntmps258
        go_wp2_with fail
        refine Calls.mono (ct _ _) ?_
        rintro e w1 ⟨rfl, rfl⟩
        go_wp2_with fail
        go_ret
        exact ⟨by simp, rfl⟩
      · have hb' : (b == 0) = false := by simpa using hb
        have hd : decide (a ≠ 0 ∧ b ≠ 0) = true := by simp [ha, hb]
        rw [hd]
        clear hd
        go_enter Tryz.func258, Tryz.ntmps258
        go_wp2_with fail
        refine Calls.mono (ct _ _) ?_
        rintro e w1 ⟨rfl, rfl⟩
        go_wp2_with fail
        go_ret
        exact ⟨by simp [bne, ha', hb'], rfl⟩
  · have e : jn 6 a b = tr (decide (a ≠ 0 ∨ b ≠ 0)) := rfl
    rw [e]
    by_cases ha : a = 0
    · subst ha
      by_cases hb : b = 0
      · subst hb
        go_enter Tryz.func258, Tryz.ntmps258
        go_wp2_with fail
        refine Calls.mono (ct _ _) ?_
        rintro e w1 ⟨rfl, rfl⟩
        go_wp2_with fail
        go_ret
        exact ⟨by simp, rfl⟩
      · have hb' : (b == 0) = false := by simpa using hb
        have hd : decide ((0 : Int) ≠ 0 ∨ b ≠ 0) = true := by simp [hb]
        rw [hd]
        clear hd
        go_enter Tryz.func258, Tryz.ntmps258
        go_wp2_with fail
        refine Calls.mono (ct _ _) ?_
        rintro e w1 ⟨rfl, rfl⟩
        go_wp2_with fail
        go_ret
        exact ⟨by simp [bne, hb'], rfl⟩
    · have ha' : (a == 0) = false := by simpa using ha
      have hd : decide (a ≠ 0 ∨ b ≠ 0) = true := by simp [ha]
      rw [hd]
      clear hd
      go_enter Tryz.func258, Tryz.ntmps258
      go_wp2_with fail
      refine Calls.mono (ct _ _) ?_
      rintro e w1 ⟨rfl, rfl⟩
      go_wp2_with fail
      go_ret
      exact ⟨rfl, rfl⟩
  · have e : jn 7 a b = tr (decide (a < b)) := rfl
    rw [e]
    by_cases ha : a < b
    · rw [decide_eq_true ha]
      go_enter Tryz.func258, Tryz.ntmps258
      go_wp2_with fail
      refine Calls.mono (ct _ _) ?_
      rintro e w1 ⟨rfl, rfl⟩
      go_wp2_with fail
      go_ret
      exact ⟨rfl, rfl⟩
    · rw [decide_eq_false ha]
      go_enter Tryz.func258, Tryz.ntmps258
      go_wp2_with fail
      refine Calls.mono (ct _ _) ?_
      rintro e w1 ⟨rfl, rfl⟩
      go_wp2_with fail
      go_ret
      exact ⟨rfl, rfl⟩
  · have e : jn 8 a b = tr (decide (a = b)) := rfl
    rw [e]
    by_cases ha : a = b
    · rw [decide_eq_true ha]
      subst ha
      go_enter Tryz.func258, Tryz.ntmps258
      go_wp2_with fail
      refine Calls.mono (ct _ _) ?_
      rintro e w1 ⟨rfl, rfl⟩
      go_wp2_with fail
      go_ret
      exact ⟨rfl, rfl⟩
    · have ha' : (a == b) = false := by simpa using ha
      rw [decide_eq_false ha]
      go_enter Tryz.func258, Tryz.ntmps258
      go_wp2_with fail
      refine Calls.mono (ct _ _) ?_
      rintro e w1 ⟨rfl, rfl⟩
      go_wp2_with fail
      go_ret
      exact ⟨rfl, rfl⟩
  · go_enter Tryz.func258, Tryz.ntmps258
    go_wp2_with fail
    go_ret
    exact ⟨rfl, rfl⟩
  · go_enter Tryz.func258, Tryz.ntmps258
    go_wp2_with fail
    go_ret
    exact ⟨rfl, rfl⟩

/-- What a name is worth: the first of that name. -/
def env (ns : List (List UInt8)) (vs : List Int) (x : List UInt8) : Int := vs.getD (ns.idxOf x) 0

/-- A guard that is whole, by its first word. -/
theorem gd_cons {ns : List (List UInt8)} {f : Nat} {xs r : List (List UInt8)} (h : gd ns f xs = .inr r) : ∃ f' x ys, f = f' + 1 ∧ xs = x :: ys ∧ kd x ≠ 1 ∧ (kd x = 3 → x ∈ ns) ∧ times (gd ns f') (ar (kd x)) ys = .inr r := by
  cases f with
  | zero => cases h
  | succ f =>
    cases xs with
    | nil => cases h
    | cons x ys =>
      simp only [gd] at h
      rcases rf_cases ns x with ⟨h1, h2⟩ | ⟨h1, _, h2⟩ | ⟨h1, h2, h3⟩
      · rw [if_pos (by omega)] at h; cases h
      · rw [if_pos (by omega)] at h; cases h
      · rw [if_neg (by omega)] at h
        exact ⟨f, x, ys, rfl, rfl, h1, h2, h⟩
theorem times_one {α β : Type} {g : List α → β ⊕ List α} {ws r : List α} (h : times g 1 ws = .inr r) : g ws = .inr r := by
  simp only [times] at h
  cases hg : g ws with
  | inl e => rw [hg] at h; cases h
  | inr r1 =>
    rw [hg] at h
    simpa using h
theorem times_two {α β : Type} {g : List α → β ⊕ List α} {ws r : List α} (h : times g 2 ws = .inr r) : ∃ r1, g ws = .inr r1 ∧ g r1 = .inr r := by
  simp only [times] at h
  cases hg : g ws with
  | inl e => rw [hg] at h; cases h
  | inr r1 =>
    rw [hg] at h
    refine ⟨r1, rfl, ?_⟩
    cases hg2 : g r1 with
    | inl e => simp only [hg2] at h; cases h
    | inr r2 =>
      simp only [hg2, Sum.inr.injEq] at h
      rw [h]
theorem Rdq.first {s : List UInt8} {p k q t : Nat} {n : Int} (h : Rdq s p k q t n) {x : List UInt8} {ys : List (List UInt8)} (hx : (Wo s p).map Prod.snd = x :: ys) : k = kd x ∧ tex s q t = x ∧ (Wo s t).map Prod.snd = ys ∧ (k = 2 → n = num x) := by
  rcases h with ⟨_, _, _, h⟩ | ⟨h1, h2, h3⟩
  · rw [h] at hx; cases hx
  · rw [h1.words] at hx
    simp only [List.map_cons, List.cons.injEq] at hx
    obtain ⟨e1, e2⟩ := hx
    rw [e1] at h2 h3
    exact ⟨h2, e1, e2, h3⟩

set_option maxRecDepth 100000 in
set_option maxHeartbeats 2000000 in
theorem reckon_any {v u : Value} {ns : List (List UInt8)} {vs : List Int} {s : List UInt8} (hs : s.length ≤ 281474976710656) (hl : ns.length ≤ vs.length) (f : Nat) : ∀ {w : World} (_ : Ns w v ns) (_ : Vi w u vs) (p : Nat) (_ : p ≤ s.length) (r : List (List UInt8)) (_ : gd ns f ((Wo s p).map Prod.snd) = .inr r),
    Calls Tryz.prog 250 #[.string ⟨s.toArray⟩, v, u, .int .i64 (p : Nat)] w fun e w' => (∃ q : Nat, e = .returned (.tuple #[.int .i64 (vl (env ns vs) f ((Wo s p).map Prod.snd)).1, .int .i64 (q : Nat)]) ∧ q ≤ s.length ∧ (Wo s q).map Prod.snd = r) ∧ Kept (fun _ => True) w w' := by
  induction f with
  | zero => intro w _ _ p _ r h; cases h
  | succ f ih =>
    intro w h hv p hp r hg
    have HI : Hid (∀ {w : World} (_ : Ns w v ns) (_ : Vi w u vs) (p : Nat) (_ : p ≤ s.length) (r : List (List UInt8)) (_ : gd ns f ((Wo s p).map Prod.snd) = .inr r),
      Calls Tryz.prog 250 #[.string ⟨s.toArray⟩, v, u, .int .i64 (p : Nat)] w fun e w' => (∃ q : Nat, e = .returned (.tuple #[.int .i64 (vl (env ns vs) f ((Wo s p).map Prod.snd)).1, .int .i64 (q : Nat)]) ∧ q ≤ s.length ∧ (Wo s q).map Prod.snd = r) ∧ Kept (fun _ => True) w w') := ih
    clear ih
    obtain ⟨f', x, ys, hf', hxs, hk1, hk3, hT⟩ := gd_cons hg
    obtain rfl : f = f' := by omega
    have HX : Hid ((Wo s p).map Prod.snd = x :: ys) := hxs
    have HT : Hid (times (gd ns f) (ar (kd x)) ys = .inr r) := hT
    have HN : Hid (Ns w v ns) := h
    have HV : Hid (Vi w u vs) := hv
    have HS : Hid (s.length ≤ 281474976710656) := hs
    have HL : Hid (ns.length ≤ vs.length) := hl
    obtain ⟨V, hV⟩ : ∃ V, V = (vl (env ns vs) (f + 1) ((Wo s p).map Prod.snd)).1 := ⟨_, rfl⟩
    rw [← hV]
    rw [hxs] at hV
    have hkc := kd_cases x
    have cr := read_any (w := w) hs p hp
    obtain ⟨ao, cap, rfl, -⟩ := h
    obtain ⟨bo, bcap, rfl, hvc⟩ := hv
    have HW : Hid (0 < vs.length → ∃ b off, bo = some ⟨b, off, none⟩ ∧ b < w.heap.size ∧ ∀ i (h : i < vs.length), w.cell? ⟨b, off + i, none⟩ = some (.int .i64 (vs[i]))) := hvc
    clear hg hT hxs hvc hf' hl
    have HV2 : Hid (V = (vl (env ns vs) (f + 1) (x :: ys)).1) := hV
    clear hV
    go_enter Tryz.func250, Tryz.ntmps250
    go_wp2_with fail
    refine Calls.mono cr ?_
    rintro e w1 ⟨⟨k, q, t, n, rfl, hR⟩, k1⟩
    clear cr
    obtain ⟨b1, b2, b3⟩ := hR.bounds
    obtain ⟨e1, e2, e3, e4⟩ := hR.first HX.out
    have HE3 : Hid ((Wo s t).map Prod.snd = ys) := e3
    have HK1 : Hid (Kept (fun _ => True) w w1) := k1
    have hcut := cut_text s q t b1 b2
    rw [e2] at hcut
    clear hR k1 e2 e3
    by_cases h2 : k = 2
    · have hV : Hid (V = n) := by
        show V = n
        rw [HV2.out, e4 h2]
        simp [vl, ← e1, h2]
      have hr : Hid (ys = r) := by
        have := HT.out
        rw [← e1, h2] at this
        show ys = r
        simpa [ar, times] using this
      subst h2
      clear e1 e4 hk3 hcut
      go_wp2_with fail
      go_quiet (fail)
      go_wp2_with fail
      go_ret2
      exact ⟨⟨t, by rw [hV.out]; rfl, b2, HE3.out.trans hr.out⟩, (HK1.out.alloc _).drewN _⟩
    · by_cases h3 : k = 3
      · have hx : x ∈ ns := hk3 (by omega)
        have hr : Hid (ys = r) := by
          have := HT.out
          rw [← e1, h3] at this
          show ys = r
          simpa [ar, times] using this
        have hlt : ns.idxOf x < vs.length := Nat.lt_of_lt_of_le (List.idxOf_lt_length_of_mem hx) HL.out
        have hix : ix ns x = (ns.idxOf x : Int) := if_pos hx
        have hV : Hid (V = vs[ns.idxOf x]) := by
          show V = _
          rw [HV2.out]
          simp only [vl]
          rw [if_neg (by omega), if_pos (by omega)]
          simp [env, hlt]
        obtain ⟨b, off, rfl, hb, hc⟩ := HW.out (by omega)
        have ci := fun W (hW : Kept (fun _ => True) w W) => index_text (HN.out.all hW) x
        rw [hix] at ci
        have q1 := hc _ hlt
        clear hc hix hx hk3 e1 e4
        generalize vs[ns.idxOf x] = z at *
        generalize ns.idxOf x = j at *
        have HK2 : Hid _ := HK1.out.alloc (.cells #[.int .i64 3, .int .i64 (q : Nat), .int .i64 (t : Nat), .int .i64 n] 236)
        have q2 := (kept_cell HK1.out hb (o := off + j) trivial).trans q1
        have q3 := (kept_cell HK2.out hb (o := off + j) trivial).trans q1
        have hb1 : b < w1.heap.size := Nat.lt_of_lt_of_le hb HK1.out.size
        have j1 : (j : Int) < (vs.length : Int) := by omega
        have j0 : (0 : Int) ≤ (j : Int) := by omega
        have c2 := fun n => ci _ (HK2.out.drewN n)
        subst h3
        clear ci q1
        go_wp2_with fail
        go_quiet ((go_at_call 186; exact Calls.quiet_of_same (c2 _)))
        go_wp2_with fail
        go_ret2
        exact ⟨⟨t, by rw [hV.out]; rfl, b2, HE3.out.trans hr.out⟩, HK2.out.drewN _⟩
      · by_cases h4 : k = 4
        · have hT1 : gd ns f ys = .inr r := times_one (by have := HT.out; rw [← e1, h4] at this; exact this)
          have hV : Hid (V = tr (decide ((vl (env ns vs) f ys).1 = 0))) := by
            show V = _
            rw [HV2.out]
            simp only [vl]
            rw [if_neg (by omega), if_neg (by omega), if_pos (by omega)]
          have HK2 : Hid _ := HK1.out.alloc (.cells #[.int .i64 4, .int .i64 (q : Nat), .int .i64 (t : Nat), .int .i64 n] 236)
          have HB : Hid _ := heap_alloc_new w1 (.cells #[.int .i64 4, .int .i64 (q : Nat), .int .i64 (t : Nat), .int .i64 n] 236)
          have ck := HI.out (HN.out.all HK2.out) (HV.out.all HK2.out) t b2 r (by rw [HE3.out]; exact hT1)
          rw [HE3.out] at ck
          subst h4
          clear e1 e4 hk3 hcut hT1
          generalize (vl (env ns vs) f ys).1 = A at *
          go_wp2_with fail
          refine Calls.mono ck ?_
          rintro e w2 ⟨⟨q2, rfl, hq2, hq3⟩, k2⟩
          clear ck
          obtain ⟨z0, z1, z2, z3⟩ := word_cells (((k2.block w1.heap.size (by simp) trivial).trans HB.out))
          have HK3 : Hid (Kept (fun _ => True) w w2) := HK2.out.trans k2
          have HQ : Hid ((Wo s q2).map Prod.snd = r) := hq3
          clear k2 HB HK2 hq3
          generalize w1.heap.size = G at *
          have ct := fun W b => truth_any (w := W) b
          by_cases ha : A = 0
          · subst ha
            go_wp2_with fail
            refine Calls.mono (ct _ _) ?_
            rintro e w3 ⟨rfl, rfl⟩
            go_wp2_with fail
            go_ret2
            exact ⟨⟨q2, by rw [hV.out]; rfl, hq2, HQ.out⟩, HK3.out⟩
          · have ha' : (A == 0) = false := by simpa using ha
            have hV2 : Hid (V = 0) := by
              show V = 0
              rw [hV.out, decide_eq_false ha]
              rfl
            clear ha
            go_wp2_with fail
            refine Calls.mono (ct _ _) ?_
            rintro e w3 ⟨rfl, rfl⟩
            go_wp2_with fail
            go_ret2
            exact ⟨⟨q2, by rw [hV2.out]; rfl, hq2, HQ.out⟩, HK3.out⟩
        · have hk5 : 5 ≤ k := by omega
          have har : ar (kd x) = 2 := by rw [← e1]; unfold ar; rw [if_neg h4, if_pos hk5]
          obtain ⟨r1, hT1, hT2⟩ := times_two (by have := HT.out; rw [har] at this; exact this)
          have hg1 := gd_vl ns (env ns vs) f ys r1 hT1
          have hV : Hid (V = jn k (vl (env ns vs) f ys).1 (vl (env ns vs) f r1).1) := by
            show V = _
            rw [HV2.out]
            simp only [vl]
            rw [if_neg (by omega), if_neg (by omega), if_neg (by omega), hg1, ← e1]
          have HK2 : Hid _ := HK1.out.alloc (.cells #[.int .i64 (k : Nat), .int .i64 (q : Nat), .int .i64 (t : Nat), .int .i64 n] 236)
          have HB : Hid _ := heap_alloc_new w1 (.cells #[.int .i64 (k : Nat), .int .i64 (q : Nat), .int .i64 (t : Nat), .int .i64 n] 236)
          have ck := HI.out (HN.out.all HK2.out) (HV.out.all HK2.out) t b2 r1 (by rw [HE3.out]; exact hT1)
          rw [HE3.out] at ck
          have HT2 : Hid (gd ns f r1 = .inr r) := hT2
          have g2 : ((k : Int) == 2) = false := by simp; omega
          have g3 : ((k : Int) == 3) = false := by simp; omega
          have g4 : ((k : Int) == 4) = false := by simp; omega
          clear e1 e4 hk3 hcut hT1 hT2 har hg1 h2 h3 h4
          generalize (vl (env ns vs) f ys).1 = A at *
          go_wp2_with fail
          refine Calls.mono ck ?_
          rintro e w2 ⟨⟨q2, rfl, hq2, hq3⟩, k2⟩
          clear ck
          have hB2 := (k2.block w1.heap.size (by simp) trivial).trans HB.out
          obtain ⟨z0, z1, z2, z3⟩ := word_cells hB2
          have HB2 : Hid _ := hB2
          have HK3 : Hid (Kept (fun _ => True) w w2) := HK2.out.trans k2
          have HQ : Hid ((Wo s q2).map Prod.snd = r1) := hq3
          have ck := HI.out (HN.out.all HK3.out) (HV.out.all HK3.out) q2 hq2 r (by rw [HQ.out]; exact HT2.out)
          rw [HQ.out] at ck
          clear k2 HB HK2 hq3 hB2
          generalize w1.heap.size = G at *
          generalize (vl (env ns vs) f r1).1 = B at *
          go_wp2_with fail
          refine Calls.mono ck ?_
          rintro e w3 ⟨⟨q3, rfl, hq3, hq4⟩, k3⟩
          clear ck
          have hG := lt_of_block HB2.out
          have hB3 := (k3.block G hG trivial).trans HB2.out
          clear z0 z1 z2 z3
          obtain ⟨z0, z1, z2, z3⟩ := word_cells hB3
          have HK4 : Hid (Kept (fun _ => True) w w3) := HK3.out.trans k3
          have HQ4 : Hid ((Wo s q3).map Prod.snd = r) := hq4
          have cj := fun W => join_any (w := W) k hk5 b3 A B
          clear k3 hB3 HB2 hq4 hG
          go_wp2_with fail
          refine Calls.mono (cj _) ?_
          rintro e w4 ⟨rfl, rfl⟩
          go_wp2_with fail
          go_ret2
          exact ⟨⟨q3, by rw [hV.out]; rfl, hq3, HQ4.out⟩, HK4.out⟩

/-- What Eval answers. -/
def evl (ns : List (List UInt8)) (vs : List Int) (s : List UInt8) : Int × Nat :=
  if (chk ns s).1 ≠ 0 then (0, (chk ns s).1) else if vs.length < ns.length then (0, 1) else ((vl (env ns vs) 17 (tx s)).1, 0)
theorem rf_lk (ns : List (List UInt8)) (L f : Nat) (ws : List (Nat × List UInt8)) (c q : Nat) (h : lk ns L f ws = .inl (c, q)) : c ≠ 0 := by
  induction f generalizing ws c q with
  | zero =>
    cases ws with
    | nil => simp only [lk, Sum.inl.injEq, Prod.mk.injEq] at h; omega
    | cons p ws =>
      obtain ⟨p, x⟩ := p
      simp only [lk, Sum.inl.injEq, Prod.mk.injEq] at h
      have := rf_small ns x
      split at h <;> omega
  | succ f ih =>
    have ht : ∀ k ws, times (lk ns L f) k ws = .inl (c, q) → c ≠ 0 := by
      intro k
      induction k with
      | zero => intro ws h; simp [times] at h
      | succ k ihk =>
        intro ws h
        simp only [times] at h
        cases hw : lk ns L f ws with
        | inl e =>
          rw [hw] at h
          simp only [Sum.inl.injEq] at h
          subst h
          exact ih ws c q hw
        | inr r =>
          rw [hw] at h
          exact ihk r h
    cases ws with
    | nil => simp only [lk, Sum.inl.injEq, Prod.mk.injEq] at h; omega
    | cons p ws =>
      obtain ⟨p, x⟩ := p
      simp only [lk] at h
      by_cases hr : rf ns x ≠ 0
      · rw [if_pos hr] at h
        simp only [Sum.inl.injEq, Prod.mk.injEq] at h
        omega
      · rw [if_neg hr] at h
        exact ht _ _ h
/-- A guard with which nothing is wrong. -/
theorem chk_gd {ns : List (List UInt8)} {s : List UInt8} : (chk ns s).1 = 0 ↔ s.length ≤ 120 ∧ gd ns 17 (tx s) = .inr [] := by
  by_cases hl : 120 < s.length
  · rw [chk_long hl]
    constructor
    · intro h; cases h
    · intro h; omega
  · have hg := lk_gd ns s.length 17 (Wo s 0)
    rw [Wo_tx] at hg
    cases hk : lk ns s.length 17 (Wo s 0) with
    | inl e =>
      obtain ⟨c, q⟩ := e
      rw [chk_fail hl hk]
      have := rf_lk ns _ _ _ c q hk
      have hg := hg.1 _ hk
      constructor
      · intro h; exact absurd h this
      · intro h; rw [hg] at h; cases h.2
    | inr r =>
      rw [chk_whole hl hk]
      have hg := hg.2 _ hk
      rw [hg]
      cases r with
      | nil => simp [tailOf]; omega
      | cons p r =>
        obtain ⟨p, x⟩ := p
        have := rf_small ns x
        constructor
        · intro h
          simp only [tailOf] at h
          split at h <;> omega
        · intro h
          simp at h

set_option maxRecDepth 100000 in
set_option maxHeartbeats 2000000 in
theorem eval_any {w : World} {v u : Value} {ns : List (List UInt8)} {vs : List Int} (h : Ns w v ns) (hv : Vi w u vs) {s : List UInt8} (hs : s.length ≤ 281474976710656) :
    Calls Tryz.prog 245 #[.string ⟨s.toArray⟩, v, u] w fun e w' => e = .returned (.tuple #[.int .i64 (evl ns vs s).1, .int .i64 ((evl ns vs s).2 : Nat)]) ∧ Kept (fun _ => True) w w' := by
  have HN : Hid (Ns w v ns) := h
  have HV : Hid (Vi w u vs) := hv
  have cc := check_any h hs
  obtain ⟨ao, cap, rfl, -⟩ := h
  obtain ⟨bo, bcap, rfl, -⟩ := hv
  obtain ⟨C, hC⟩ : ∃ C, C = evl ns vs s := ⟨_, rfl⟩
  have HC : Hid (C = evl ns vs s) := hC
  rw [← hC]
  clear hC
  by_cases h0 : (chk ns s).1 = 0
  · have hg := chk_gd.1 h0
    rw [h0] at cc
    by_cases hl : vs.length < ns.length
    · have e1 : Hid (C = (0, 1)) := by
        show C = (0, 1)
        rw [HC.out, evl, if_neg (by omega), if_pos hl]
      have hl' : (vs.length : Int) < (ns.length : Int) := by omega
      clear h0 hg
      generalize (chk ns s).2 = q at *
      go_enter Tryz.func245, Tryz.ntmps245
      go_wp2_with fail
      refine Calls.mono cc ?_
      rintro e w1 ⟨rfl, k1⟩
      clear cc
      go_wp2_with fail
      go_ret2
      exact ⟨by rw [e1.out]; rfl, k1⟩
    · have e1 : Hid (C = ((vl (env ns vs) 17 (tx s)).1, 0)) := by
        show C = _
        rw [HC.out, evl, if_neg (by omega), if_neg hl]
      have hl' : ¬ (vs.length : Int) < (ns.length : Int) := by omega
      have ck := fun W (hk : Kept (fun _ => True) w W) => reckon_any hs (by omega) 17 (HN.out.all hk) (HV.out.all hk) 0 (Nat.zero_le _) [] (by rw [Wo_tx]; exact hg.2)
      rw [Wo_tx] at ck
      clear h0 hg
      generalize (chk ns s).2 = q at *
      generalize (vl (env ns vs) 17 (tx s)).1 = V at *
      go_enter Tryz.func245, Tryz.ntmps245
      go_wp2_with fail
      refine Calls.mono cc ?_
      rintro e w1 ⟨rfl, k1⟩
      clear cc
      have c2 := ck _ k1
      clear ck
      go_wp2_with fail
      refine Calls.mono c2 ?_
      rintro e w2 ⟨⟨q2, rfl, -, -⟩, k2⟩
      go_wp2_with fail
      go_ret2
      exact ⟨by rw [e1.out]; rfl, k1.trans k2⟩
  · have e1 : Hid (C = (0, (chk ns s).1)) := by
      show C = _
      rw [HC.out, evl, if_pos h0]
    generalize (chk ns s).2 = q at *
    generalize (chk ns s).1 = c at *
    have hc : ((c : Int) == 0) = false := by simp; omega
    clear h0
    go_enter Tryz.func245, Tryz.ntmps245
    go_wp2_with fail
    refine Calls.mono cc ?_
    rintro e w1 ⟨rfl, k1⟩
    clear cc
    go_wp2_with fail
    go_ret2
    exact ⟨by rw [e1.out]; rfl, k1⟩

end Go.Proofs.YtenejaghgehnoaaGreatDoor

namespace Go.Proofs.YtenejaghgehnoaaGreatDoor
open Go.RowKit

/-- A state, an operation. -/
structure Sa where
  type : List UInt8
  vals : List Int
  done : List Bool
  got : List Bool
structure Oq where
  kind : Int
  cas : List UInt8
  name : List UInt8
  n : Int
def Sa.none : Sa := ⟨[], [], [], []⟩

/-- What guards see. -/
def sees (s : Sa) : List Int := s.vals ++ (s.done ++ s.got).map tr
def hld (t : Ty) (s : Sa) (g : List UInt8) : Bool := (evl (nms t) (sees s) g).1 != 0
def Sa.mark (s : Sa) (i : Nat) : Sa := { s with got := s.got.set i true }
/-- A round over the marks from i on: what is got then; was one got? -/
def rnd (t : Ty) : Nat → List Ru → Sa → Sa × Bool
  | _, [], s => (s, false)
  | i, r :: l, s => if s.got[i]? = some false ∧ hld t s r.guard = true then ((rnd t (i + 1) l (s.mark i)).1, true) else rnd t (i + 1) l s
def stl (t : Ty) : Nat → Sa → Sa
  | 0, s => s
  | n + 1, s => if (rnd t 0 t.marks s).2 = true then stl t n (rnd t 0 t.marks s).1 else s
def wanting (s : Sa) : Nat := s.got.count false
def settled (t : Ty) (s : Sa) : Sa := stl t (wanting s + 1) s

/-- Two states alike but for their marks, which only grow. -/
structure Grows (s s' : Sa) : Prop where
  type : s'.type = s.type
  vals : s'.vals = s.vals
  done : s'.done = s.done
  got : s'.got.length = s.got.length
  stays : ∀ i : Nat, s.got[i]? = some true → s'.got[i]? = some true
theorem Grows.refl (s : Sa) : Grows s s := ⟨rfl, rfl, rfl, rfl, fun _ h => h⟩
theorem Grows.trans {a b c : Sa} (h : Grows a b) (k : Grows b c) : Grows a c :=
  ⟨k.type.trans h.type, k.vals.trans h.vals, k.done.trans h.done, k.got.trans h.got, fun i hi => k.stays i (h.stays i hi)⟩
theorem Grows.mark (s : Sa) (i : Nat) : Grows s (s.mark i) := by
  refine ⟨rfl, rfl, rfl, by simp [Sa.mark], fun j hj => ?_⟩
  show (s.got.set i true)[j]? = some true
  rw [List.getElem?_set]
  by_cases h : i = j
  · subst h
    have : i < s.got.length := by
      rcases Nat.lt_or_ge i s.got.length with h | h
      · exact h
      · rw [List.getElem?_eq_none h] at hj; cases hj
    simp [this]
  · rw [if_neg h]; exact hj
theorem count_set : ∀ {l : List Bool} {i : Nat}, l[i]? = some false → (l.set i true).count false + 1 = l.count false
  | [], _, h => by simp at h
  | b :: l, 0, h => by
    simp only [List.getElem?_cons_zero, Option.some.injEq] at h
    subst h
    simp
  | b :: l, i + 1, h => by
    have := count_set (l := l) (i := i) (by simpa using h)
    simp only [List.set_cons_succ, List.count_cons]
    omega
theorem rnd_facts (t : Ty) : ∀ (l : List Ru) (i : Nat) (s : Sa), Grows s (rnd t i l s).1 ∧ ((rnd t i l s).2 = false → (rnd t i l s).1 = s) ∧ wanting (rnd t i l s).1 ≤ wanting s ∧ ((rnd t i l s).2 = true → wanting (rnd t i l s).1 < wanting s)
  | [], i, s => ⟨Grows.refl s, fun _ => rfl, Nat.le_refl _, fun h => (by cases h)⟩
  | r :: l, i, s => by
    simp only [rnd]
    by_cases h : s.got[i]? = some false ∧ hld t s r.guard = true
    · rw [if_pos h]
      obtain ⟨h1, h2, h3, h4⟩ := rnd_facts t l (i + 1) (s.mark i)
      have hc : wanting (s.mark i) + 1 = wanting s := count_set h.1
      exact ⟨(Grows.mark s i).trans h1, fun h => (by cases h), (by show wanting (rnd t (i + 1) l (s.mark i)).1 ≤ _; omega), fun _ => (by show wanting (rnd t (i + 1) l (s.mark i)).1 < _; omega)⟩
    · rw [if_neg h]
      exact rnd_facts t l (i + 1) s
theorem stl_fuel (t : Ty) : ∀ (n m : Nat) (s : Sa), wanting s < n → wanting s < m → stl t n s = stl t m s
  | 0, _, _, h, _ => by omega
  | _ + 1, 0, _, _, h => by omega
  | n + 1, m + 1, s, h1, h2 => by
    simp only [stl]
    by_cases h : (rnd t 0 t.marks s).2 = true
    · rw [if_pos h, if_pos h]
      have := (rnd_facts t t.marks 0 s).2.2.2 h
      exact stl_fuel t n m _ (by omega) (by omega)
    · rw [if_neg h, if_neg h]
theorem settled_again {t : Ty} {s : Sa} (h : (rnd t 0 t.marks s).2 = true) : settled t s = settled t (rnd t 0 t.marks s).1 := by
  have hw := (rnd_facts t t.marks 0 s).2.2.2 h
  unfold settled
  rw [stl, if_pos h]
  exact stl_fuel t _ _ _ (by omega) (by omega)
theorem settled_stop {t : Ty} {s : Sa} (h : (rnd t 0 t.marks s).2 = false) : settled t s = s := by
  unfold settled
  rw [stl, if_neg (by rw [h]; decide)]
theorem settled_grows (t : Ty) (s : Sa) : Grows s (settled t s) := by
  generalize hn : wanting s = n
  induction n using Nat.strongRecOn generalizing s with
  | _ n ih =>
    obtain ⟨h1, _, _, h4⟩ := rnd_facts t t.marks 0 s
    by_cases h : (rnd t 0 t.marks s).2 = true
    · rw [settled_again h]
      exact h1.trans (ih _ (by have := h4 h; omega) _ rfl)
    · rw [settled_stop (by simpa using h)]
      exact Grows.refl s
/-- One mark of a round. -/
theorem rnd_step {t : Ty} {i : Nat} {s : Sa} (h : i < t.marks.length) : rnd t i (t.marks.drop i) s = if s.got[i]? = some false ∧ hld t s (t.marks[i]).guard = true then ((rnd t (i + 1) (t.marks.drop (i + 1)) (s.mark i)).1, true) else rnd t (i + 1) (t.marks.drop (i + 1)) s := by
  rw [List.drop_eq_getElem_cons h]
  rfl
theorem rnd_over {t : Ty} {i : Nat} {s : Sa} (h : t.marks.length ≤ i) : rnd t i (t.marks.drop i) s = (s, false) := by
  rw [List.drop_eq_nil_of_le h]
  rfl

/-- Where a name stands. -/
def spot (ns : List (List UInt8)) (x : List UInt8) : Option Nat := if x ∈ ns then some (ns.idxOf x) else none
def wthn (a : At) (n : Int) : Bool := decide (a.lo ≤ n) && decide (n ≤ a.hi)
def At.nil : At := ⟨[], 0, 0, 0⟩
def Ru.nil : Ru := ⟨[], []⟩
def putP (t : Ty) (s : Sa) (k : Nat) (n : Int) : Sa × Nat := if wthn (t.attrs.getD k At.nil) n = true then ({ s with vals := s.vals.set k n }, 0) else (s, 34)
def setK (t : Ty) (s : Sa) (o : Oq) : Option Nat → Sa × Nat
  | none => (s, 31)
  | some k => putP t s k o.n
def setP (t : Ty) (s : Sa) (o : Oq) : Sa × Nat := setK t s o (spot (t.attrs.map At.name) o.name)
def addK (t : Ty) (s : Sa) (o : Oq) : Option Nat → Sa × Nat
  | none => (s, 31)
  | some k => if o.n < -2000 ∨ 2000 < o.n then (s, 34) else putP t s k (s.vals.getD k 0 + o.n)
def addP (t : Ty) (s : Sa) (o : Oq) : Sa × Nat := addK t s o (spot (t.attrs.map At.name) o.name)
def rdy (t : Ty) (s : Sa) (k : Nat) : Bool := !(s.done.getD k true) && hld t s (t.stages.getD k Ru.nil).guard
def fireK (t : Ty) (s : Sa) : Option Nat → Sa × Nat
  | none => (s, 32)
  | some k => if rdy t s k = true then ({ s with done := s.done.set k true }, 0) else (s, 32)
def fireP (t : Ty) (s : Sa) (o : Oq) : Sa × Nat := fireK t s (spot (t.stages.map Ru.name) o.name)
def tA (p : At × Int) : List UInt8 := [32] ++ p.1.name ++ [61] ++ Lib.itoa p.2
def tS (p : Ru × Bool) : List UInt8 := if p.2 = true then [32, 43] ++ p.1.name else []
def tM (p : Ru × Bool) : List UInt8 := if p.2 = true then [32, 42] ++ p.1.name else []
def textP (t : Ty) (s : Sa) : List UInt8 := t.name ++ (t.attrs.zip s.vals).flatMap tA ++ (t.stages.zip s.done).flatMap tS ++ (t.marks.zip s.got).flatMap tM
def fin (t : Ty) (x : Sa × Nat) : Sa × List UInt8 × Nat := if x.2 = 0 then (settled t x.1, [], 0) else (Sa.none, [], x.2)
def applyP (t : Ty) (s : Sa) (o : Oq) : Sa × List UInt8 × Nat :=
  if o.kind = 2 then fin t (setP t s o) else if o.kind = 3 then fin t (addP t s o) else if o.kind = 4 then fin t (fireP t s o)
  else if o.kind = 5 then (s, textP t s, 0) else (Sa.none, [], 1)
def rawP (t : Ty) : Sa := ⟨t.name, t.attrs.map At.start, List.replicate t.stages.length false, List.replicate t.marks.length false⟩
def newP (t : Ty) : Sa := settled t (rawP t)

structure Sized (t : Ty) (s : Sa) : Prop where
  vals : s.vals.length = t.attrs.length
  done : s.done.length = t.stages.length
  got : s.got.length = t.marks.length
structure Fit (t : Ty) (s : Sa) : Prop where
  type : s.type = t.name
  sz : Sized t s
  within : ∀ k, k < t.attrs.length → wthn (t.attrs.getD k At.nil) (s.vals.getD k 0) = true

/-- What a right type is. -/
structure Good (t : Ty) : Prop where
  name : t.name.length ≤ 12
  na : t.attrs.length ≤ 6
  ns : t.stages.length ≤ 6
  nm : t.marks.length ≤ 6
  alone : (nms t).Nodup
  names : ∀ n ∈ nms t, n.length ≤ 12
  guards : ∀ r ∈ t.stages ++ t.marks, r.guard.length ≤ 120
  ranges : ∀ a ∈ t.attrs, -1000 ≤ a.lo ∧ a.lo ≤ a.start ∧ a.start ≤ a.hi ∧ a.hi ≤ 1000
theorem rns_good : ∀ {ns : List (List UInt8)} {ats : List At} {had : List (List UInt8)}, rns ats had ns = 0 → (∀ n ∈ ns, isName n = true ∧ n ∉ had) ∧ ns.Nodup ∧ (ats.length ≤ ns.length → ∀ a ∈ ats, ranged a = true)
  | [], ats, _, _ => ⟨fun n hn => (by cases hn), List.nodup_nil, fun h a ha => by
      have : ats = [] := List.length_eq_zero_iff.1 (by simpa using h)
      subst this
      cases ha⟩
  | n :: r, ats, had, h => by
    simp only [rns] at h
    by_cases h1 : isName n = false
    · rw [if_pos h1] at h; cases h
    · rw [if_neg h1] at h
      by_cases h2 : n ∈ had
      · rw [if_pos h2] at h; cases h
      · rw [if_neg h2] at h
        by_cases h3 : ats.head?.any (fun a => !ranged a) = true
        · rw [if_pos h3] at h; cases h
        · rw [if_neg h3] at h
          obtain ⟨g1, g2, g3⟩ := rns_good h
          refine ⟨fun x hx => ?_, List.nodup_cons.2 ⟨fun hn => (g1 n hn).2 (by simp), g2⟩, fun hl a ha => ?_⟩
          · rcases List.mem_cons.1 hx with rfl | hx
            · exact ⟨by simpa using h1, h2⟩
            · exact ⟨(g1 x hx).1, fun hh => (g1 x hx).2 (List.mem_append.2 (.inl hh))⟩
          · cases ats with
            | nil => cases ha
            | cons y ys =>
              rcases List.mem_cons.1 ha with rfl | ha
              · simpa using h3
              · exact g3 (by simpa using hl) a ha
theorem rgs_good {ns : List (List UInt8)} : ∀ {rs : List Ru}, rgs ns rs = 0 → ∀ r ∈ rs, (chk ns r.guard).1 = 0
  | [], _, r, hr => by cases hr
  | x :: l, h, r, hr => by
    simp only [rgs] at h
    by_cases h1 : (chk ns x.guard).1 ≠ 0
    · rw [if_pos h1] at h; exact absurd h h1
    · rw [if_neg h1] at h
      rcases List.mem_cons.1 hr with rfl | hr
      · exact Classical.not_not.1 h1
      · exact rgs_good h r hr
theorem good_of {t : Ty} (h : right t = 0) : Good t := by
  obtain ⟨h1, h2, h3, h4, h5, h6⟩ := right_few h
  obtain ⟨g1, g2, g3⟩ := rns_good h5
  refine ⟨(isName_all h1).2.2.1, h2, h3, h4, g2, fun n hn => (isName_all (g1 n hn).1).2.2.1, fun r hr => (chk_gd.1 (rgs_good h6 r hr)).1, fun a ha => ?_⟩
  have := g3 (by simp [nms]) a ha
  simp only [ranged, Bool.and_eq_true, decide_eq_true_eq] at this
  omega
theorem Good.attrN {t : Ty} (h : Good t) : (t.attrs.map At.name).Nodup := by
  have := h.alone
  unfold nms at this
  exact (List.nodup_append.1 (List.nodup_append.1 this).1).1
theorem Good.stageN {t : Ty} (h : Good t) : (t.stages.map Ru.name).Nodup := by
  have := h.alone
  unfold nms at this
  exact (List.nodup_append.1 (List.nodup_append.1 this).1).2.1
theorem Good.few {t : Ty} (h : Good t) : (nms t).length ≤ 18 := by
  have := h.na; have := h.ns; have := h.nm
  simp [nms]
  omega

/-- The first place, and in a row without doubles any. -/
theorem spot_at {ns : List (List UInt8)} {x : List UInt8} (hn : ns.Nodup) (k : Nat) (hk : k < ns.length) (he : ns[k] = x) : spot ns x = some k := by
  have hm : x ∈ ns := he ▸ List.getElem_mem hk
  have hi := List.idxOf_lt_length_of_mem hm
  have h1 : ns[ns.idxOf x] = x := List.getElem_idxOf hi
  have : ns.idxOf x = k := by
    rcases Nat.lt_trichotomy (ns.idxOf x) k with h | h | h
    · exact absurd (h1.trans he.symm) (List.pairwise_iff_getElem.1 hn _ _ hi hk h)
    · exact h
    · exact absurd (he.trans h1.symm) (List.pairwise_iff_getElem.1 hn _ _ hk hi h)
  rw [spot, if_pos hm, this]
theorem spot_no {ns : List (List UInt8)} {x : List UInt8} (h : ∀ k (hk : k < ns.length), ns[k] ≠ x) : spot ns x = none := by
  rw [spot, if_neg]
  intro hm
  obtain ⟨k, hk, e⟩ := List.getElem_of_mem hm
  exact h k hk e
theorem spot_some {ns : List (List UInt8)} {x : List UInt8} {k : Nat} (h : spot ns x = some k) : ∃ hk : k < ns.length, ns[k] = x := by
  unfold spot at h
  by_cases hm : x ∈ ns
  · rw [if_pos hm] at h
    cases h
    exact ⟨List.idxOf_lt_length_of_mem hm, List.getElem_idxOf _⟩
  · rw [if_neg hm] at h; cases h

theorem Fit.grows {t : Ty} {s s' : Sa} (h : Fit t s) (k : Grows s s') : Fit t s' :=
  ⟨k.type.trans h.type, ⟨by rw [k.vals]; exact h.sz.vals, by rw [k.done]; exact h.sz.done, k.got.trans h.sz.got⟩, fun i hi => by rw [k.vals]; exact h.within i hi⟩
theorem Fit.settled {t : Ty} {s : Sa} (h : Fit t s) : Fit t (settled t s) := h.grows (settled_grows t s)
theorem Fit.raw {t : Ty} (h : Good t) : Fit t (rawP t) := by
  refine ⟨rfl, ⟨by simp [rawP], by simp [rawP], by simp [rawP]⟩, fun k hk => ?_⟩
  have := h.ranges t.attrs[k] (List.getElem_mem hk)
  simp only [rawP, List.getD_eq_getElem?_getD, List.getElem?_map, hk, List.getElem?_eq_getElem, Option.map_some, Option.getD_some, wthn, Bool.and_eq_true, decide_eq_true_eq]
  omega
theorem Fit.new {t : Ty} (h : Good t) : Fit t (newP t) := (Fit.raw h).settled
theorem Fit.put {t : Ty} {s : Sa} (h : Fit t s) (k : Nat) (n : Int) : Fit t (putP t s k n).1 := by
  unfold putP
  by_cases hw : wthn (t.attrs.getD k At.nil) n = true
  · rw [if_pos hw]
    refine ⟨h.type, ⟨by simpa using h.sz.vals, h.sz.done, h.sz.got⟩, fun i hi => ?_⟩
    simp only [List.getD_eq_getElem?_getD, List.getElem?_set]
    by_cases hik : k = i
    · subst hik
      have : k < s.vals.length := by rw [h.sz.vals]; exact hi
      simp only [if_true, this, Option.getD_some]
      rw [List.getD_eq_getElem?_getD] at hw
      exact hw
    · rw [if_neg hik]
      have := h.within i hi
      rw [List.getD_eq_getElem?_getD, List.getD_eq_getElem?_getD] at this
      exact this
  · rw [if_neg hw]; exact h
theorem Fit.set {t : Ty} {s : Sa} (h : Fit t s) (o : Oq) : Fit t (setP t s o).1 := by
  unfold setP
  cases spot (t.attrs.map At.name) o.name with
  | none => exact h
  | some k => exact h.put _ _
theorem Fit.add {t : Ty} {s : Sa} (h : Fit t s) (o : Oq) : Fit t (addP t s o).1 := by
  unfold addP
  cases spot (t.attrs.map At.name) o.name with
  | none => exact h
  | some k =>
    show Fit t (if o.n < -2000 ∨ 2000 < o.n then (s, 34) else putP t s k (s.vals.getD k 0 + o.n)).1
    split
    · exact h
    · exact h.put _ _
theorem Fit.fire {t : Ty} {s : Sa} (h : Fit t s) (o : Oq) : Fit t (fireP t s o).1 := by
  unfold fireP
  cases spot (t.stages.map Ru.name) o.name with
  | none => exact h
  | some k =>
    show Fit t (if rdy t s k = true then (({ s with done := s.done.set k true } : Sa), 0) else (s, 32)).1
    split
    · exact ⟨h.type, ⟨h.sz.vals, by simpa using h.sz.done, h.sz.got⟩, h.within⟩
    · exact h
theorem Fit.fin {t : Ty} {x : Sa × Nat} (h : Fit t x.1) (h0 : (fin t x).2.2 = 0) : Fit t (fin t x).1 := by
  unfold Proofs.YtenejaghgehnoaaGreatDoor.fin at h0 ⊢
  by_cases hx : x.2 = 0
  · rw [if_pos hx]; exact h.settled
  · rw [if_neg hx] at h0; exact absurd h0 hx
theorem Fit.apply {t : Ty} {s : Sa} (h : Fit t s) (o : Oq) (h0 : (applyP t s o).2.2 = 0) : Fit t (applyP t s o).1 := by
  unfold applyP at h0 ⊢
  split
  · rename_i hk; rw [if_pos hk] at h0; exact Fit.fin (h.set o) h0
  · rename_i hk; rw [if_neg hk] at h0
    split
    · rename_i hk; rw [if_pos hk] at h0; exact Fit.fin (h.add o) h0
    · rename_i hk; rw [if_neg hk] at h0
      split
      · rename_i hk; rw [if_pos hk] at h0; exact Fit.fin (h.fire o) h0
      · rename_i hk; rw [if_neg hk] at h0
        split
        · exact h
        · rename_i hk; rw [if_neg hk] at h0; cases h0

end Go.Proofs.YtenejaghgehnoaaGreatDoor

namespace Go.Proofs.YtenejaghgehnoaaGreatDoor
open Go.Proofs Go.Shelf
def itoaQ_ren : Go.Shelf.Ren := ⟨fun | 171 => 234 | 243 => 244 | 246 => 249 | 283 => 253 | 284 => 254 | 285 => 255 | 286 => 256 | 129 => 203 | 317 => 259 | 318 => 260 | 319 => 261 | 320 => 262 | 337 => 263 | 338 => 264 | n => n, fun | 3 => 3 | 9 => 9 | 2 => 2 | 4 => 4 | 171 => 318 | 0 => 0 | 53 => 202 | 37 => 33 | 5 => 5 | 173 => 320 | 212 => 322 | 51 => 136 | 20 => 20 | 213 => 323 | 46 => 206 | 232 => 324 | 233 => 325 | n => n, fun | 17 => 0 | 18 => 1 | 19 => 2 | n => n⟩
theorem itoaQ : Go.Proofs.LaysM.n171 Tryz.prog itoaQ_ren := {
  mixed := by kernel_rfl
  f129 := Tryz.func203.trans (congrArg some (by kernel_rfl))
  f171 := Tryz.func234.trans (congrArg some (by kernel_rfl))
  f243 := Tryz.func244.trans (congrArg some (by kernel_rfl))
  f246 := Tryz.func249.trans (congrArg some (by kernel_rfl))
  f283 := Tryz.func253.trans (congrArg some (by kernel_rfl))
  f284 := Tryz.func254.trans (congrArg some (by kernel_rfl))
  f285 := Tryz.func255.trans (congrArg some (by kernel_rfl))
  f286 := Tryz.func256.trans (congrArg some (by kernel_rfl))
  f317 := Tryz.func259.trans (congrArg some (by kernel_rfl))
  f318 := Tryz.func260.trans (congrArg some (by kernel_rfl))
  f319 := Tryz.func261.trans (congrArg some (by kernel_rfl))
  f320 := Tryz.func262.trans (congrArg some (by kernel_rfl))
  f337 := Tryz.func263.trans (congrArg some (by kernel_rfl))
  f338 := Tryz.func264.trans (congrArg some (by kernel_rfl))
  t0 := Tryz.underlying0
  a0 := Tryz.isAgg0
  z0 := Tryz.sizeOf0
  v0 := Tryz.zeroValue0
  t2 := Tryz.underlying2
  a2 := Tryz.isAgg2
  z2 := Tryz.sizeOf2
  v2 := Tryz.zeroValue2
  t3 := Tryz.underlying3
  a3 := Tryz.isAgg3
  z3 := Tryz.sizeOf3
  v3 := Tryz.zeroValue3
  t4 := Tryz.underlying4
  a4 := Tryz.isAgg4
  z4 := Tryz.sizeOf4
  v4 := Tryz.zeroValue4
  t5 := Tryz.underlying5
  a5 := Tryz.isAgg5
  z5 := Tryz.sizeOf5
  v5 := Tryz.zeroValue5
  t9 := Tryz.underlying9
  a9 := Tryz.isAgg9
  z9 := Tryz.sizeOf9
  v9 := Tryz.zeroValue9
  t20 := Tryz.underlying20
  a20 := Tryz.isAgg20
  z20 := Tryz.sizeOf20
  v20 := Tryz.zeroValue20
  t37 := Tryz.underlying33
  a37 := Tryz.isAgg33
  z37 := Tryz.sizeOf33
  v37 := Tryz.zeroValue33
  t46 := Tryz.underlying206
  a46 := Tryz.isAgg206
  z46 := Tryz.sizeOf206
  v46 := Tryz.zeroValue206
  t51 := Tryz.underlying136
  a51 := Tryz.isAgg136
  z51 := Tryz.sizeOf136
  v51 := Tryz.zeroValue136
  t53 := Tryz.underlying202
  a53 := Tryz.isAgg202
  z53 := Tryz.sizeOf202
  v53 := Tryz.zeroValue202
  t171 := Tryz.underlying318
  a171 := Tryz.isAgg318
  z171 := Tryz.sizeOf318
  v171 := Tryz.zeroValue318
  t173 := Tryz.underlying320
  a173 := Tryz.isAgg320
  z173 := Tryz.sizeOf320
  v173 := Tryz.zeroValue320
  t212 := Tryz.underlying322
  a212 := Tryz.isAgg322
  z212 := Tryz.sizeOf322
  v212 := Tryz.zeroValue322
  t213 := Tryz.underlying323
  a213 := Tryz.isAgg323
  z213 := Tryz.sizeOf323
  t232 := Tryz.underlying324
  a232 := Tryz.isAgg324
  z232 := Tryz.sizeOf324
  v232 := Tryz.zeroValue324
  t233 := Tryz.underlying325
  a233 := Tryz.isAgg325
  z233 := Tryz.sizeOf325
  v233 := Tryz.zeroValue325
  g17 := by kernel_rfl
  g18 := by kernel_rfl
  g19 := by kernel_rfl
  i0 := by kernel_rfl
  i2 := by kernel_rfl
  i3 := by kernel_rfl
  i4 := by kernel_rfl
  i5 := by kernel_rfl
  i9 := by kernel_rfl
  i20 := by kernel_rfl
  i37 := by kernel_rfl
  i46 := by kernel_rfl
  i51 := by kernel_rfl
  i53 := by kernel_rfl
  i171 := by kernel_rfl
  i173 := by kernel_rfl
  i212 := by kernel_rfl
  i232 := by kernel_rfl
  i233 := by kernel_rfl
  m17 := by kernel_rfl
  m18 := by kernel_rfl
  m19 := by kernel_rfl }
def stringQ_ren : Go.Shelf.Ren := ⟨fun | 169 => 235 | n => n, fun | 70 => 297 | 9 => 9 | 0 => 0 | 72 => 299 | 37 => 33 | 127 => 309 | 3 => 3 | 5 => 5 | n => n, fun | n => n⟩
theorem stringQ : Go.Proofs.Lays.n169 Tryz.prog stringQ_ren := {
  mixed := by kernel_rfl
  f169 := Tryz.func235.trans (congrArg some (by kernel_rfl))
  t0 := Tryz.underlying0
  a0 := Tryz.isAgg0
  z0 := Tryz.sizeOf0
  v0 := Tryz.zeroValue0
  t3 := Tryz.underlying3
  a3 := Tryz.isAgg3
  z3 := Tryz.sizeOf3
  v3 := Tryz.zeroValue3
  t9 := Tryz.underlying9
  a9 := Tryz.isAgg9
  z9 := Tryz.sizeOf9
  v9 := Tryz.zeroValue9
  t37 := Tryz.underlying33
  a37 := Tryz.isAgg33
  z37 := Tryz.sizeOf33
  v37 := Tryz.zeroValue33
  t70 := Tryz.underlying297
  a70 := Tryz.isAgg297
  z70 := Tryz.sizeOf297
  v70 := Tryz.zeroValue297
  t72 := Tryz.underlying299
  a72 := Tryz.isAgg299
  z72 := Tryz.sizeOf299
  v72 := Tryz.zeroValue299
  t127 := Tryz.underlying309
  a127 := Tryz.isAgg309
  z127 := Tryz.sizeOf309
  v127 := Tryz.zeroValue309 }
end Go.Proofs.YtenejaghgehnoaaGreatDoor

namespace Go.Proofs.YtenejaghgehnoaaGreatDoor
open Go.RowKit

/-- Numbers as cells. -/
def nrow (xs : List Int) : List Value := xs.map fun n => .int .i64 n
theorem Vi.new {w : World} {g cap : Nat} {xs : List Int} {fr : Nat × Nat} (h : w.heap[g]? = some (.cells (nrow xs).toArray 3 fr)) : Vi w (.slice (some ⟨g, 0, none⟩) xs.length cap) xs := by
  refine ⟨_, _, rfl, fun _ => ⟨g, 0, rfl, lt_of_block h, fun i hi => ?_⟩⟩
  rw [cell_of_row w g _ _ _ _ h, Nat.zero_add]
  simp [nrow, hi]
end Go.Proofs.YtenejaghgehnoaaGreatDoor

namespace Go.Proofs.YtenejaghgehnoaaGreatDoor
open Go.RowKit

set_option maxRecDepth 100000 in
set_option maxHeartbeats 1000000 in
theorem texts_any {w : World} {b1 b2 : Nat} {a1 a2 : Option Addr} {n1 n2 c1 c2 : Nat} {xs ys : List (List UInt8)} (h1 : Txs w b1 (.slice a1 n1 c1) xs) (h2 : Txs w b2 (.slice a2 n2 c2) ys) (hl : n1 ≤ 140737488355328) :
    Calls Tryz.prog 36 #[.slice a1 n1 c1, .slice a2 n2 c2] w fun e w' => e = .returned (.bool (decide (xs = ys))) ∧ ∃ m, w' = w.drewN m := by
  have l1 : Hid (n1 = xs.length) := by obtain ⟨ao, cap, e, _⟩ := h1.shape; injection e
  have l2 : Hid (n2 = ys.length) := by obtain ⟨ao, cap, e, _⟩ := h2.shape; injection e
  have H1 : Hid (Txs w b1 (.slice a1 n1 c1) xs) := h1
  have H2 : Hid (Txs w b2 (.slice a2 n2 c2) ys) := h2
  clear h1 h2
  by_cases hn : n1 = n2
  · subst hn
    go_enter Tryz.func36, Tryz.ntmps36
    go_wp2
    go_loopw [5] (fun t wr => ∃ k m : Nat, k ≤ n1 ∧ xs.take k = ys.take k ∧ t = .int .i64 k ∧ wr = w.drewN m) (fun t _ => n1 - (intOf t).toNat)
    case atStart => exact ⟨0, 0, Nat.zero_le _, rfl, rfl, rfl⟩
    case round =>
      obtain ⟨k, m, hk, hE, rfl, rfl⟩ := hrel
      have HE : Hid (xs.take k = ys.take k) := hE
      clear hE
      by_cases hlt : k < n1
      · obtain ⟨_, _, e1, _, g1⟩ := H1.out.shape
        obtain ⟨G1, g1⟩ := g1 (by have := l1.out; omega)
        injection e1 with e1 _ _
        subst e1 g1
        obtain ⟨_, _, e2, _, g2⟩ := H2.out.shape
        obtain ⟨G2, g2⟩ := g2 (by have := l2.out; omega)
        injection e2 with e2 _ _
        subst e2 g2
        have q1 := H1.out.cell k (by have := l1.out; omega)
        have q2 := H2.out.cell k (by have := l2.out; omega)
        have hkl : (k : Int) < (n1 : Int) := by omega
        have hk0 : (0 : Int) ≤ (k : Int) := by omega
        by_cases he : xs[k]'(by have := l1.out; omega) = ys[k]'(by have := l2.out; omega)
        · have HT : Hid (xs.take (k + 1) = ys.take (k + 1)) := by
            show _ = _
            rw [List.take_succ_eq_append_getElem (by have := l1.out; omega), List.take_succ_eq_append_getElem (by have := l2.out; omega), HE.out, he]
          rw [← he] at q2
          generalize xs[k]'(by have := l1.out; omega) = y at *
          clear he
          go_wp2
          go_quiet (fail)
          go_wp2
          go_roundw
          case rel => exact ⟨k + 1, _, by omega, HT.out, by go_num, rfl⟩
          case measure => simp [intOf]; omega
        · have hne : (xs[k]'(by have := l1.out; omega) == ys[k]'(by have := l2.out; omega)) = false := beq_eq_false_iff_ne.2 he
          have HX : Hid (xs ≠ ys) := fun e => he (by subst e; rfl)
          generalize xs[k]'(by have := l1.out; omega) = x at *
          generalize ys[k]'(by have := l2.out; omega) = y at *
          clear he
          go_wp2
          go_quiet (fail)
          go_wp2
          go_ret
          exact ⟨by rw [decide_eq_false HX.out]; rfl, _, drew_two _ _ _⟩
      · have hkl : ¬ ((k : Int) < (n1 : Int)) := by omega
        go_wp2
        go_ret
        refine ⟨?_, m, rfl⟩
        have e : xs = ys := by
          have := HE.out
          rwa [List.take_of_length_le (by have := l1.out; omega), List.take_of_length_le (by have := l2.out; omega)] at this
        rw [decide_eq_true e]
        rfl
  · have hn' : ((n1 : Int) == (n2 : Int)) = false := by simp; omega
    have HX : Hid (xs ≠ ys) := fun e => hn (by rw [l1.out, l2.out, e])
    go_enter Tryz.func36, Tryz.ntmps36
    go_wp2
    go_ret
    exact ⟨by rw [decide_eq_false HX.out]; rfl, 0, rfl⟩

end Go.Proofs.YtenejaghgehnoaaGreatDoor

namespace Go.Proofs.YtenejaghgehnoaaGreatDoor
open Go.RowKit

/-- What number answers of a word. -/
def nm (x : List UInt8) : Int := if isNum x = true then num x else 0
end Go.Proofs.YtenejaghgehnoaaGreatDoor

namespace Go.Proofs.YtenejaghgehnoaaGreatDoor
open Go.RowKit

/-- Their cells. -/
def alay (a : At) : List Value := [.string ⟨a.name.toArray⟩, .int .i64 a.start, .int .i64 a.lo, .int .i64 a.hi]
def rlay (r : Ru) : List Value := [.string ⟨r.name.toArray⟩, .string ⟨r.guard.toArray⟩]
def arow (xs : List At) : List Value := xs.flatMap alay
def rrow (xs : List Ru) : List Value := xs.flatMap rlay
theorem flat_length {α : Type} {lay : α → List Value} {sz : Nat} (hl : ∀ x, (lay x).length = sz) (xs : List α) : (xs.flatMap lay).length = xs.length * sz := by
  induction xs with
  | nil => simp
  | cons x xs ih => rw [List.flatMap_cons, List.length_append, ih, hl, List.length_cons, Nat.succ_mul]; omega
theorem flat_get {α : Type} {lay : α → List Value} {sz : Nat} (hl : ∀ x, (lay x).length = sz) : ∀ (xs : List α) (k : Nat) (h : k < xs.length) (j : Nat), j < sz → (xs.flatMap lay)[k * sz + j]? = (lay xs[k])[j]?
  | x :: xs, 0, _, j, hj => by
    rw [List.flatMap_cons, Nat.zero_mul, Nat.zero_add, List.getElem?_append_left (by rw [hl]; exact hj)]
    rfl
  | x :: xs, k + 1, h, j, hj => by
    have := flat_get hl xs k (by simpa using h) j hj
    rw [List.flatMap_cons, Nat.succ_mul, show k * sz + sz + j = sz + (k * sz + j) by omega, List.getElem?_append_right (by rw [hl]; omega), hl, Nat.add_sub_cancel_left, this]
    rfl
theorem flat_one {α : Type} {lay : α → List Value} (h1 : ∀ x, ∀ u ∈ lay x, u.oneCell' = true) (xs : List α) : ∀ u ∈ xs.flatMap lay, u.oneCell' = true := by
  intro u hu
  obtain ⟨x, _, hm⟩ := List.mem_flatMap.1 hu
  exact h1 x u hm
theorem alay_len (x : At) : (alay x).length = 4 := rfl
theorem rlay_len (x : Ru) : (rlay x).length = 2 := rfl
theorem alay_one (x : At) : ∀ u ∈ alay x, u.oneCell' = true := by
  intro u hu
  simp only [alay, List.mem_cons, List.not_mem_nil, or_false] at hu
  rcases hu with rfl | rfl | rfl | rfl <;> rfl
theorem rlay_one (x : Ru) : ∀ u ∈ rlay x, u.oneCell' = true := by
  intro u hu
  simp only [rlay, List.mem_cons, List.not_mem_nil, or_false] at hu
  rcases hu with rfl | rfl <;> rfl

/-- Attributes that are looked at. -/
def Av (w : World) (v : Value) (xs : List At) : Prop :=
  ∃ ao cap, v = .slice ao xs.length cap ∧ xs.length ≤ 281474976710656 ∧ (ao = none → cap = 0) ∧ (0 < xs.length → ∃ b off, ao = some ⟨b, off, none⟩ ∧ b < w.heap.size ∧ ∀ i (h : i < xs.length),
    w.cell? ⟨b, off + i * 4, none⟩ = some (.string ⟨(xs[i]).name.toArray⟩) ∧ w.cell? ⟨b, off + i * 4 + 1, none⟩ = some (.int .i64 (xs[i]).start) ∧ w.cell? ⟨b, off + i * 4 + 2, none⟩ = some (.int .i64 (xs[i]).lo) ∧ w.cell? ⟨b, off + i * 4 + 3, none⟩ = some (.int .i64 (xs[i]).hi))
/-- Stages or marks that are looked at. -/
def Rv (w : World) (v : Value) (xs : List Ru) : Prop :=
  ∃ ao cap, v = .slice ao xs.length cap ∧ xs.length ≤ 281474976710656 ∧ (ao = none → cap = 0) ∧ (0 < xs.length → ∃ b off, ao = some ⟨b, off, none⟩ ∧ b < w.heap.size ∧ ∀ i (h : i < xs.length),
    w.cell? ⟨b, off + i * 2, none⟩ = some (.string ⟨(xs[i]).name.toArray⟩) ∧ w.cell? ⟨b, off + i * 2 + 1, none⟩ = some (.string ⟨(xs[i]).guard.toArray⟩))
theorem Av.all {w w' : World} {v : Value} {xs : List At} (h : Av w v xs) (k : Kept (fun _ => True) w w') : Av w' v xs := by
  obtain ⟨ao, cap, e, hl, hn, h⟩ := h
  refine ⟨ao, cap, e, hl, hn, fun h0 => ?_⟩
  obtain ⟨b, off, e, hb, hc⟩ := h h0
  refine ⟨b, off, e, Nat.lt_of_lt_of_le hb k.size, fun i hi => ?_⟩
  obtain ⟨h1, h2, h3, h4⟩ := hc i hi
  exact ⟨(kept_cell k hb trivial).trans h1, (kept_cell k hb trivial).trans h2, (kept_cell k hb trivial).trans h3, (kept_cell k hb trivial).trans h4⟩
theorem Rv.all {w w' : World} {v : Value} {xs : List Ru} (h : Rv w v xs) (k : Kept (fun _ => True) w w') : Rv w' v xs := by
  obtain ⟨ao, cap, e, hl, hn, h⟩ := h
  refine ⟨ao, cap, e, hl, hn, fun h0 => ?_⟩
  obtain ⟨b, off, e, hb, hc⟩ := h h0
  refine ⟨b, off, e, Nat.lt_of_lt_of_le hb k.size, fun i hi => ?_⟩
  obtain ⟨h1, h2⟩ := hc i hi
  exact ⟨(kept_cell k hb trivial).trans h1, (kept_cell k hb trivial).trans h2⟩
theorem Av.kept {p : Nat → Prop} {w w' : World} {v : Value} {xs : List At} (h : Av w v xs) (k : Kept p w w') (hp : ∀ i, v.ownBlock = some i → p i) : Av w' v xs := by
  obtain ⟨ao, cap, rfl, hl, hn, h⟩ := h
  refine ⟨ao, cap, rfl, hl, hn, fun h0 => ?_⟩
  obtain ⟨b, off, rfl, hb, hc⟩ := h h0
  refine ⟨b, off, rfl, Nat.lt_of_lt_of_le hb k.size, fun i hi => ?_⟩
  have hpb := hp b rfl
  obtain ⟨h1, h2, h3, h4⟩ := hc i hi
  exact ⟨(kept_cell k hb hpb).trans h1, (kept_cell k hb hpb).trans h2, (kept_cell k hb hpb).trans h3, (kept_cell k hb hpb).trans h4⟩
theorem Rv.kept {p : Nat → Prop} {w w' : World} {v : Value} {xs : List Ru} (h : Rv w v xs) (k : Kept p w w') (hp : ∀ i, v.ownBlock = some i → p i) : Rv w' v xs := by
  obtain ⟨ao, cap, rfl, hl, hn, h⟩ := h
  refine ⟨ao, cap, rfl, hl, hn, fun h0 => ?_⟩
  obtain ⟨b, off, rfl, hb, hc⟩ := h h0
  refine ⟨b, off, rfl, Nat.lt_of_lt_of_le hb k.size, fun i hi => ?_⟩
  have hpb := hp b rfl
  obtain ⟨h1, h2⟩ := hc i hi
  exact ⟨(kept_cell k hb hpb).trans h1, (kept_cell k hb hpb).trans h2⟩
theorem Av.nil (w : World) : Av w (.slice none 0 0) [] := ⟨none, 0, rfl, by simp, fun _ => rfl, fun h => by simp at h⟩
theorem Rv.nil (w : World) : Rv w (.slice none 0 0) [] := ⟨none, 0, rfl, by simp, fun _ => rfl, fun h => by simp at h⟩

/-- Rows of one's own, behind 'base'. -/
def Ao (w : World) (base : Nat) (v : Value) (xs : List At) : Prop := w.ownsRow base 88 4 v xs.length (arow xs)
def Ro (w : World) (base : Nat) (v : Value) (xs : List Ru) : Prop := w.ownsRow base 90 2 v xs.length (rrow xs)
theorem Ao.nil (w : World) (base : Nat) : Ao w base (.slice none 0 0) [] := World.ownsRow_nil _ _ _ _
theorem Ro.nil (w : World) (base : Nat) : Ro w base (.slice none 0 0) [] := World.ownsRow_nil _ _ _ _
theorem own_keep {p : Nat → Prop} {w w' : World} {b e sz n : Nat} {v : Value} {xs : List Value} (h : w.ownsRow b e sz v n xs) (hk : Kept p w w') (hp : ∀ k, v.ownBlock = some k → p k) : w'.ownsRow b e sz v n xs := by
  refine ⟨h.1, ?_⟩
  rcases h.2 with h0 | ⟨g, cap, cur, rfl, hb, hh, rest⟩
  · exact .inl h0
  · exact .inr ⟨g, cap, cur, rfl, hb, (hk.block g (lt_of_block hh) (hp g rfl)).trans hh, rest⟩
theorem own_form {w : World} {b e sz n : Nat} {v : Value} {xs : List Value} (h : w.ownsRow b e sz v n xs) : ∃ ao cap, v = .slice ao n cap ∧ n ≤ cap ∧ (ao = none → cap = 0) ∧ (0 < n → ∃ g, ao = some ⟨g, 0, none⟩) := by
  rcases h.2 with ⟨hv, h0⟩ | ⟨g, cap, cur, hv, _, hh, hc, _⟩
  · exact ⟨none, 0, by rw [hv, h0], by omega, fun _ => rfl, fun hp => by omega⟩
  · exact ⟨_, cap, hv, hc, by simp, fun _ => ⟨g, rfl⟩⟩
theorem Ao.view {w : World} {base : Nat} {v : Value} {xs : List At} (h : Ao w base v xs) (hl : xs.length ≤ 281474976710656) : Av w v xs := by
  obtain ⟨ao, cap, rfl, _, hn, hg⟩ := own_form h
  refine ⟨ao, cap, rfl, hl, hn, fun h0 => ?_⟩
  obtain ⟨g, rfl⟩ := hg h0
  have hc : ∀ i (_ : i < xs.length) (j : Nat), j < 4 → w.cell? ⟨g, i * 4 + j, none⟩ = (alay xs[i])[j]? := fun i hi j hj =>
    (World.ownsRow.cellAt h _ (by omega)).trans (flat_get alay_len xs i hi j hj)
  refine ⟨g, 0, rfl, ?_, fun i hi => ?_⟩
  · have := hc 0 h0 0 (by omega)
    exact World.block_lt_of_cell? w _ this
  · simp only [Nat.zero_add]
    exact ⟨hc i hi 0 (by omega), hc i hi 1 (by omega), hc i hi 2 (by omega), hc i hi 3 (by omega)⟩
theorem Ro.view {w : World} {base : Nat} {v : Value} {xs : List Ru} (h : Ro w base v xs) (hl : xs.length ≤ 281474976710656) : Rv w v xs := by
  obtain ⟨ao, cap, rfl, _, hn, hg⟩ := own_form h
  refine ⟨ao, cap, rfl, hl, hn, fun h0 => ?_⟩
  obtain ⟨g, rfl⟩ := hg h0
  have hc : ∀ i (_ : i < xs.length) (j : Nat), j < 2 → w.cell? ⟨g, i * 2 + j, none⟩ = (rlay xs[i])[j]? := fun i hi j hj =>
    (World.ownsRow.cellAt h _ (by omega)).trans (flat_get rlay_len xs i hi j hj)
  refine ⟨g, 0, rfl, ?_, fun i hi => ?_⟩
  · have := hc 0 h0 0 (by omega)
    exact World.block_lt_of_cell? w _ this
  · simp only [Nat.zero_add]
    exact ⟨hc i hi 0 (by omega), hc i hi 1 (by omega)⟩

theorem Tryz.infoAttr : (Tryz.prog.info? 88).map (fun i => (i.zero, i.size, i.bytes)) = some (some (.agg #[.string .empty, .int .i64 0, .int .i64 0, .int .i64 0]), 4, 40) := by kernel_rfl
theorem Tryz.infoRule : (Tryz.prog.info? 90).map (fun i => (i.zero, i.size, i.bytes)) = some (some (.agg #[.string .empty, .string .empty]), 2, 32) := by kernel_rfl
theorem Tryz.sizeType : (Tryz.prog.info? 54).map (·.size) = some 4 := by kernel_rfl
theorem cells_attr : (Value.agg #[.string .empty, .int .i64 0, .int .i64 0, .int .i64 0]).cells.size = 4 := by simp [Value.cells]
theorem cells_rule : (Value.agg #[.string .empty, .string .empty]).cells.size = 2 := by simp [Value.cells]

theorem load_type {w : World} {g : Nat} {cs : Array Value} {t : TypeId} {fr : Nat × Nat} (hg : w.heap[g]? = some (.cells cs t fr)) (hc : cs.size = 4) : (loadVar 54 ⟨g, 0, none⟩).run Tryz.prog w = .ok (.agg cs) w :=
  run_loadVar_row w g t 54 cs fr _ hg Tryz.underlying54 rfl (by rw [hc]; exact Tryz.sizeType)
theorem set_cell {w : World} {b : Nat} {cs : Array Value} {t : TypeId} {fr : Nat × Nat} (h : w.heap[b]? = some (.cells cs t fr)) (k : Nat) (u : Value) : (w.setCell ⟨b, k, none⟩ u).heap[b]? = some (.cells (cs.setIfInBounds k u) t fr) := by
  have hlt := lt_of_block h
  have h' : w.heap[b] = .cells cs t fr := by simpa [Array.getElem?_eq_getElem hlt] using h
  show (w.heap.modify b _)[b]? = _
  rw [Array.getElem?_eq_getElem (by simpa using hlt), Array.getElem_modify_self, h']
  rfl
theorem Kept.setNew {p : Nat → Prop} {a w : World} (h : Kept p a w) {ad : Addr} (hp : a.heap.size ≤ ad.block) (u : Value) : Kept p a (w.setCell ad u) :=
  ⟨h.os, h.tape, h.output, by simpa [World.setCell] using h.size, fun k hk hpk => (Below.heap_setCell _ _ _ _ (by omega)).trans (h.block k hk hpk)⟩
theorem four_cell {w : World} {b : Nat} {x y z u : Value} {t : TypeId} (h : w.heap[b]? = some (.cells #[x, y, z, u] t (0, 0))) :
    (w.cell? ⟨b, 0, none⟩ = some x ∧ w.cell? ⟨b, 1, none⟩ = some y ∧ w.cell? ⟨b, 2, none⟩ = some z ∧ w.cell? ⟨b, 3, none⟩ = some u) ∧ (w.frozen? ⟨b, 0, none⟩ = false ∧ w.frozen? ⟨b, 1, none⟩ = false ∧ w.frozen? ⟨b, 2, none⟩ = false ∧ w.frozen? ⟨b, 3, none⟩ = false) :=
  ⟨⟨by simp [World.cell?, h], by simp [World.cell?, h], by simp [World.cell?, h], by simp [World.cell?, h]⟩, by simp [World.frozen?, h], by simp [World.frozen?, h], by simp [World.frozen?, h], by simp [World.frozen?, h]⟩
theorem pair_cell {w : World} {b : Nat} {x y : Value} {t : TypeId} (h : w.heap[b]? = some (.cells #[x, y] t (0, 0))) :
    (w.cell? ⟨b, 0, none⟩ = some x ∧ w.cell? ⟨b, 1, none⟩ = some y) ∧ (w.frozen? ⟨b, 0, none⟩ = false ∧ w.frozen? ⟨b, 1, none⟩ = false) :=
  ⟨⟨by simp [World.cell?, h], by simp [World.cell?, h]⟩, by simp [World.frozen?, h], by simp [World.frozen?, h]⟩

def At.none : At := ⟨[], 0, 0, 0⟩
def Ru.none : Ru := ⟨[], []⟩
set_option maxRecDepth 100000 in
set_option maxHeartbeats 2000000 in
theorem ranged_any {w : World} (x : At) :
    Calls Tryz.prog 161 #[.agg (alay x).toArray] w fun e w' => e = .returned (.bool (ranged x)) ∧ Kept (fun _ => True) w w' := by
  have hX := heap_alloc_new w (.cells #[.string ⟨x.name.toArray⟩, .int .i64 x.start, .int .i64 x.lo, .int .i64 x.hi] 88)
  obtain ⟨⟨z0, z1, z2, z3⟩, _⟩ := four_cell hX
  have K1 : Hid _ := (Kept.refl (fun _ => True) w).alloc (.cells #[.string ⟨x.name.toArray⟩, .int .i64 x.start, .int .i64 x.lo, .int .i64 x.hi] 88)
  clear hX
  unfold ranged alay
  generalize x.start = s at *
  generalize x.lo = l at *
  generalize x.hi = h at *
  by_cases h1 : -1000 ≤ l
  · by_cases h2 : l ≤ s
    · by_cases h3 : s ≤ h
      · by_cases h4 : h ≤ 1000
        all_goals
          simp only [h1, h2, h3, h4, decide_true, decide_false, Bool.and_true, Bool.and_false]
          go_enter Tryz.func161, Tryz.ntmps161
          go_wp2_with fail
          go_ret
          exact ⟨rfl, K1.out⟩
      · simp only [h1, h2, h3, decide_true, decide_false, Bool.and_true, Bool.and_false, Bool.false_and]
        go_enter Tryz.func161, Tryz.ntmps161
        go_wp2_with fail
        go_ret
        exact ⟨rfl, K1.out⟩
    · simp only [h1, h2, decide_true, decide_false, Bool.and_false, Bool.false_and]
      go_enter Tryz.func161, Tryz.ntmps161
      go_wp2_with fail
      go_ret
      exact ⟨rfl, K1.out⟩
  · simp only [h1, decide_false, Bool.false_and]
    go_enter Tryz.func161, Tryz.ntmps161
    go_wp2_with fail
    go_ret
    exact ⟨rfl, K1.out⟩
theorem own_parts {w : World} {b e sz n : Nat} {v : Value} {xs : List Value} (h : w.ownsRow b e sz v n xs) : ∃ ao m cap, v = .slice ao m cap := by
  obtain ⟨ao, cap, e, _⟩ := own_form h
  exact ⟨ao, n, cap, e⟩

end Go.Proofs.YtenejaghgehnoaaGreatDoor

namespace Go.Proofs.YtenejaghgehnoaaGreatDoor
open Go.RowKit

/-- A type that is looked at. -/
def TyV (w : World) (v : Value) (t : Ty) : Prop := ∃ va vs vm, v = .agg #[.string ⟨t.name.toArray⟩, va, vs, vm] ∧ Av w va t.attrs ∧ Rv w vs t.stages ∧ Rv w vm t.marks
theorem TyV.all {w w' : World} {v : Value} {t : Ty} (h : TyV w v t) (k : Kept (fun _ => True) w w') : TyV w' v t := by
  obtain ⟨va, vs, vm, e, h1, h2, h3⟩ := h
  exact ⟨va, vs, vm, e, h1.all k, h2.all k, h3.all k⟩
theorem TyV.none (w : World) : TyV w (.agg #[.string ⟨#[]⟩, .slice none 0 0, .slice none 0 0, .slice none 0 0]) Ty.none := ⟨_, _, _, rfl, Av.nil w, Rv.nil w, Rv.nil w⟩

/-- Four blocks that were made one behind the other. -/
theorem alloc_four (w : World) (a b c d : Obj) : ((((w.alloc a).alloc b).alloc c).alloc d).heap[w.heap.size]? = some a ∧ ((((w.alloc a).alloc b).alloc c).alloc d).heap[w.heap.size + 1]? = some b ∧ ((((w.alloc a).alloc b).alloc c).alloc d).heap[w.heap.size + 2]? = some c ∧ ((((w.alloc a).alloc b).alloc c).alloc d).heap[w.heap.size + 3]? = some d := by
  have e1 : (w.alloc a).heap.size = w.heap.size + 1 := by simp
  have e2 : ((w.alloc a).alloc b).heap.size = w.heap.size + 2 := by simp
  have e3 : (((w.alloc a).alloc b).alloc c).heap.size = w.heap.size + 3 := by simp
  refine ⟨?_, ?_, ?_, ?_⟩
  · rw [heap_alloc_old _ _ (by omega), heap_alloc_old _ _ (by omega), heap_alloc_old _ _ (by omega)]
    exact heap_alloc_new w a
  · rw [heap_alloc_old _ _ (by omega), heap_alloc_old _ _ (by omega), ← e1]
    exact heap_alloc_new _ b
  · rw [heap_alloc_old _ _ (by omega), ← e2]
    exact heap_alloc_new _ c
  · rw [← e3]
    exact heap_alloc_new _ d

end Go.Proofs.YtenejaghgehnoaaGreatDoor

namespace Go.Proofs.YtenejaghgehnoaaGreatDoor
open Go.RowKit

theorem Av.at {w : World} {ao : Option Addr} {n cap : Nat} {xs : List At} (h : Av w (.slice ao n cap) xs) (i : Nat) (hi : i < xs.length) : ∃ b off, ao = some ⟨b, off, none⟩ ∧ b < w.heap.size ∧
    w.cell? ⟨b, off + i * 4, none⟩ = some (.string ⟨(xs[i]).name.toArray⟩) ∧ w.cell? ⟨b, off + i * 4 + 1, none⟩ = some (.int .i64 (xs[i]).start) ∧ w.cell? ⟨b, off + i * 4 + 2, none⟩ = some (.int .i64 (xs[i]).lo) ∧ w.cell? ⟨b, off + i * 4 + 3, none⟩ = some (.int .i64 (xs[i]).hi) := by
  obtain ⟨ao', cap', e, hl, hn, h⟩ := h
  cases e
  obtain ⟨b, off, e, hb, hc⟩ := h (by omega)
  exact ⟨b, off, e, hb, hc i hi⟩
theorem Rv.at {w : World} {ao : Option Addr} {n cap : Nat} {xs : List Ru} (h : Rv w (.slice ao n cap) xs) (i : Nat) (hi : i < xs.length) : ∃ b off, ao = some ⟨b, off, none⟩ ∧ b < w.heap.size ∧
    w.cell? ⟨b, off + i * 2, none⟩ = some (.string ⟨(xs[i]).name.toArray⟩) ∧ w.cell? ⟨b, off + i * 2 + 1, none⟩ = some (.string ⟨(xs[i]).guard.toArray⟩) := by
  obtain ⟨ao', cap', e, hl, hn, h⟩ := h
  cases e
  obtain ⟨b, off, e, hb, hc⟩ := h (by omega)
  exact ⟨b, off, e, hb, hc i hi⟩
/-- The slice's own parts. -/
theorem Av.form {w : World} {v : Value} {xs : List At} (h : Av w v xs) : ∃ ao cap, v = .slice ao xs.length cap ∧ xs.length ≤ 281474976710656 := by
  obtain ⟨ao, cap, e, hl, _⟩ := h
  exact ⟨ao, cap, e, hl⟩
theorem Rv.form {w : World} {v : Value} {xs : List Ru} (h : Rv w v xs) : ∃ ao cap, v = .slice ao xs.length cap ∧ xs.length ≤ 281474976710656 := by
  obtain ⟨ao, cap, e, hl, _⟩ := h
  exact ⟨ao, cap, e, hl⟩
theorem TyV.parts {w : World} {v : Value} {t : Ty} (h : TyV w v t) : ∃ ao an ac so sn sc mo mn mc, v = .agg #[.string ⟨t.name.toArray⟩, .slice ao an ac, .slice so sn sc, .slice mo mn mc] := by
  obtain ⟨va, vs, vm, rfl, h1, h2, h3⟩ := h
  obtain ⟨ao, ac, rfl, _⟩ := h1.form
  obtain ⟨so, sc, rfl, _⟩ := h2.form
  obtain ⟨mo, mc, rfl, _⟩ := h3.form
  exact ⟨_, _, _, _, _, _, _, _, _, rfl⟩
theorem map_take_succ {α β : Type} (f : α → β) (l : List α) (i : Nat) (h : i < l.length) : (l.take (i + 1)).map f = (l.take i).map f ++ [f l[i]] := by
  rw [List.take_succ_eq_append_getElem h, List.map_append]
  rfl

theorem ownsRow_low {w : World} {b b' e sz n : Nat} {v : Value} {xs : List Value} (h : w.ownsRow b e sz v n xs) (hb : b' ≤ b) : w.ownsRow b' e sz v n xs := by
  refine ⟨h.1, ?_⟩
  rcases h.2 with h0 | ⟨g, cap, cur, rfl, hg, rest⟩
  · exact .inl h0
  · exact .inr ⟨g, cap, cur, rfl, by omega, rest⟩

set_option maxRecDepth 100000 in
set_option maxHeartbeats 8000000 in
theorem names_any {w : World} {v : Value} {t : Ty} (h : TyV w v t) (hm : (nms t).length ≤ 100000000) :
    Calls Tryz.prog 159 #[v] w fun e w' => ∃ v', e = .returned v' ∧ Txs w' w.heap.size v' (nms t) ∧ Kept (fun _ => True) w w' := by
  obtain ⟨va, vs, vm, rfl, ha, hs, hk⟩ := h
  obtain ⟨ao, ac, rfl, la⟩ := ha.form
  obtain ⟨so, sc, rfl, ls⟩ := hs.form
  obtain ⟨mo, mc, rfl, lm⟩ := hk.form
  have hnl : (nms t).length = t.attrs.length + t.stages.length + t.marks.length := by simp [nms]; omega
  rw [hnl] at hm
  have k0 : Kept (fun _ => True) w (w.alloc (.cells #[.string ⟨t.name.toArray⟩, .slice ao t.attrs.length ac, .slice so t.stages.length sc, .slice mo t.marks.length mc] 54)) := (Kept.refl _ _).alloc _
  have hX := heap_alloc_new w (.cells #[.string ⟨t.name.toArray⟩, .slice ao t.attrs.length ac, .slice so t.stages.length sc, .slice mo t.marks.length mc] 54)
  replace ha := ha.all k0
  replace hs := hs.all k0
  replace hk := hk.all k0
  have hsz : w.heap.size ≤ (w.alloc (.cells #[.string ⟨t.name.toArray⟩, .slice ao t.attrs.length ac, .slice so t.stages.length sc, .slice mo t.marks.length mc] 54)).heap.size := k0.size
  obtain ⟨⟨z0, z1, z2, z3⟩, _⟩ := four_cell hX
  clear hnl
  go_enter Tryz.func159, Tryz.ntmps159
  go_wp2_with fail
  generalize w.alloc (.cells #[.string ⟨t.name.toArray⟩, .slice ao t.attrs.length ac, .slice so t.stages.length sc, .slice mo t.marks.length mc] 54) = w1 at *
  obtain ⟨B, hB⟩ : ∃ B, B = w.heap.size := ⟨_, rfl⟩
  have HBw : Hid (w.heap.size ≤ B) := Nat.le_of_eq hB.symm
  rw [← hB] at hX z0 z1 z2 z3 ⊢
  have HB : Hid (B = w.heap.size) := hB
  have K0 : Hid (Kept (fun _ => True) w w1) := k0
  have HSZ : Hid (w.heap.size ≤ w1.heap.size) := hsz
  have HA : Hid (Av w1 (.slice ao t.attrs.length ac) t.attrs) := ha
  have HS : Hid (Rv w1 (.slice so t.stages.length sc) t.stages) := hs
  have HM : Hid (Rv w1 (.slice mo t.marks.length mc) t.marks) := hk
  have HX : Hid (w1.heap[B]? = some (.cells #[.string ⟨t.name.toArray⟩, .slice ao t.attrs.length ac, .slice so t.stages.length sc, .slice mo t.marks.length mc] 54 (0, 0))) := hX
  clear hB ha hs hk hX k0 hsz
  go_loopw [3, 5, 13] (fun t3 _ ti wr => ∃ i : Nat, i ≤ t.attrs.length ∧ ti = .int .i64 i ∧ Txs wr w1.heap.size t3 ((t.attrs.take i).map At.name) ∧ Kept (fun _ => True) w1 wr) (fun _ _ ti _ => t.attrs.length - (intOf ti).toNat)
  case atStart => exact ⟨0, Nat.zero_le _, rfl, Txs.nil _ _, Kept.refl _ _⟩
  case round =>
    obtain ⟨i, hi, rfl, hT, hk⟩ := hrel
    obtain ⟨to, tc, rfl, _, _⟩ := hT.shape
    have hln : ((t.attrs.take i).map At.name).length ≤ 100000000 := by simp only [List.length_map, List.length_take]; omega
    have HLN : Hid _ := hln
    have HT : Hid (Txs wr w1.heap.size (.slice to ((t.attrs.take i).map At.name).length tc) ((t.attrs.take i).map At.name)) := hT
    have HKr : Hid (Kept (fun _ => True) w1 wr) := hk
    clear hT hk hln
    by_cases hlt : i < t.attrs.length
    · obtain ⟨b, off, rfl, hb, hc0, hc1, hc2, hc3⟩ := (HA.out.all HKr.out).at i hlt
      have HST : Hid ((t.attrs.take (i + 1)).map At.name = (t.attrs.take i).map At.name ++ [(t.attrs[i]).name]) := map_take_succ _ _ _ hlt
      have i1 : (i : Int) < (t.attrs.length : Int) := by omega
      have i0 : (0 : Int) ≤ (i : Int) := by omega
      generalize t.attrs[i] = x at *
      have HK4 : Hid (Kept (fun _ => True) wr (wr.alloc (.cells #[Value.string ⟨x.name.toArray⟩, Value.int .i64 x.start, Value.int .i64 x.lo, Value.int .i64 x.hi] 88))) := (Kept.refl _ _).alloc _
      have HNB : Hid (∀ o : Obj, ((wr.alloc (.cells #[Value.string ⟨x.name.toArray⟩, Value.int .i64 x.start, Value.int .i64 x.lo, Value.int .i64 x.hi] 88)).alloc o).heap[wr.heap.size + 1]? = some o) := fun o => heap_alloc2_new wr _ o
      generalize hNs : ((t.attrs.take i).map At.name) = ns at *
      have HNS : Hid _ := hNs
      clear hNs
      go_wp2_with (at_builtin; refine wpList_append_text rfl (.tmp 17) (.tmp 20) rfl w1.heap.size (.slice to ns.length tc) ns rfl (HT.out.kept (p := fun _ => True) (HK4.out.alloc _) (fun _ _ => trivial)) (by have h1 := HKr.out.size; have h2 := (HK4.out.alloc (.cells #[.string ⟨x.name.toArray⟩] 9)).size; omega) (wr.heap.size + 1) rfl x.name (0, 0) (HNB.out _) (by have := HLN.out; omega) ?_; intro ao' cap' w' hW hG hO; have HW : Hid _ := hW; have HGr : Hid _ := hG; clear hW hG hO)
      go_roundw
      case rel =>
        refine ⟨i + 1, by omega, by go_num, ?_, ?_⟩
        · rw [HST.out]
          exact HW.out
        · exact ((HKr.out.trans HK4.out).alloc _).grown HGr.out (fun k hk e => by have := (World.ownsRow.lt HT.out k e).1; omega)
      case measure => simp [intOf]; omega
    · have i1 : ¬ (i : Int) < (t.attrs.length : Int) := by omega
      have hie : i = t.attrs.length := by omega
      have hX2 := (HKr.out.block B (lt_of_block HX.out) trivial).trans HX.out
      obtain ⟨⟨y0, y1, y2, y3⟩, _⟩ := four_cell hX2
      have HT2 : Hid (Txs wr w1.heap.size (.slice to ((t.attrs.take i).map At.name).length tc) (t.attrs.map At.name)) := by
        have := HT.out
        rw [hie] at this ⊢
        rw [List.take_length] at this ⊢
        exact this
      generalize ((t.attrs.take i).map At.name).length = tl at *
      clear hX2 HT hie hlt
      go_wp2_with fail
      go_loopw [3, 7, 26] (fun t3 _ ti wr => ∃ i : Nat, i ≤ t.stages.length ∧ ti = .int .i64 i ∧ Txs wr w1.heap.size t3 (t.attrs.map At.name ++ (t.stages.take i).map Ru.name) ∧ Kept (fun _ => True) w1 wr) (fun _ _ ti _ => t.stages.length - (intOf ti).toNat)
      case atStart => exact ⟨0, Nat.zero_le _, rfl, by simpa using HT2.out, HKr.out⟩
      case round =>
        obtain ⟨i, hi, rfl, hT, hk⟩ := hrel
        obtain ⟨to, tc, rfl, _, _⟩ := hT.shape
        have hln : (t.attrs.map At.name ++ (t.stages.take i).map Ru.name).length ≤ 100000000 := by simp only [List.length_append, List.length_map, List.length_take]; omega
        have HLN : Hid _ := hln
        have HT : Hid (Txs wr w1.heap.size (.slice to (t.attrs.map At.name ++ (t.stages.take i).map Ru.name).length tc) (t.attrs.map At.name ++ (t.stages.take i).map Ru.name)) := hT
        have HKr : Hid (Kept (fun _ => True) w1 wr) := hk
        clear hT hk hln
        by_cases hlt : i < t.stages.length
        · obtain ⟨b, off, rfl, hb, hc0, hc1⟩ := (HS.out.all HKr.out).at i hlt
          have HST : Hid ((t.stages.take (i + 1)).map Ru.name = (t.stages.take i).map Ru.name ++ [(t.stages[i]).name]) := map_take_succ _ _ _ hlt
          have i1 : (i : Int) < (t.stages.length : Int) := by omega
          have i0 : (0 : Int) ≤ (i : Int) := by omega
          generalize t.stages[i] = x at *
          have HK4 : Hid (Kept (fun _ => True) wr (wr.alloc (.cells #[Value.string ⟨x.name.toArray⟩, Value.string ⟨x.guard.toArray⟩] 90))) := (Kept.refl _ _).alloc _
          have HNB : Hid (∀ o : Obj, ((wr.alloc (.cells #[Value.string ⟨x.name.toArray⟩, Value.string ⟨x.guard.toArray⟩] 90)).alloc o).heap[wr.heap.size + 1]? = some o) := fun o => heap_alloc2_new wr _ o
          generalize hNs : (t.attrs.map At.name ++ (t.stages.take i).map Ru.name) = ns at *
          have HNS : Hid _ := hNs
          clear hNs
          go_wp2_with (at_builtin; refine wpList_append_text rfl (.tmp 30) (.tmp 33) rfl w1.heap.size (.slice to ns.length tc) ns rfl (HT.out.kept (p := fun _ => True) (HK4.out.alloc _) (fun _ _ => trivial)) (by have h1 := HKr.out.size; have h2 := (HK4.out.alloc (.cells #[.string ⟨x.name.toArray⟩] 9)).size; omega) (wr.heap.size + 1) rfl x.name (0, 0) (HNB.out _) (by have := HLN.out; omega) ?_; intro ao' cap' w' hW hG hO; have HW : Hid _ := hW; have HGr : Hid _ := hG; clear hW hG hO)
          go_roundw
          case rel =>
            refine ⟨i + 1, by omega, by go_num, ?_, ?_⟩
            · rw [HST.out, ← List.append_assoc, HNS.out]
              exact HW.out
            · exact ((HKr.out.trans HK4.out).alloc _).grown HGr.out (fun k hk e => by have := (World.ownsRow.lt HT.out k e).1; omega)
          case measure => simp [intOf]; omega
        · have i1 : ¬ (i : Int) < (t.stages.length : Int) := by omega
          have hie : i = t.stages.length := by omega
          have hX2 := (HKr.out.block B (lt_of_block HX.out) trivial).trans HX.out
          obtain ⟨⟨y0, y1, y2, y3⟩, _⟩ := four_cell hX2
          have HT2 : Hid (Txs wr w1.heap.size (.slice to (t.attrs.map At.name ++ (t.stages.take i).map Ru.name).length tc) (t.attrs.map At.name ++ t.stages.map Ru.name)) := by
            have := HT.out
            rw [hie] at this ⊢
            rw [List.take_length] at this ⊢
            exact this
          generalize (t.attrs.map At.name ++ (t.stages.take i).map Ru.name).length = tl at *
          clear hX2 HT hie hlt
          go_wp2_with fail
          go_loopw [3, 9, 39] (fun t3 _ ti wr => ∃ i : Nat, i ≤ t.marks.length ∧ ti = .int .i64 i ∧ Txs wr w1.heap.size t3 (t.attrs.map At.name ++ t.stages.map Ru.name ++ (t.marks.take i).map Ru.name) ∧ Kept (fun _ => True) w1 wr) (fun _ _ ti _ => t.marks.length - (intOf ti).toNat)
          case atStart => exact ⟨0, Nat.zero_le _, rfl, by simpa using HT2.out, HKr.out⟩
          case round =>
            obtain ⟨i, hi, rfl, hT, hk⟩ := hrel
            obtain ⟨to, tc, rfl, _, _⟩ := hT.shape
            have hln : (t.attrs.map At.name ++ t.stages.map Ru.name ++ (t.marks.take i).map Ru.name).length ≤ 100000000 := by simp only [List.length_append, List.length_map, List.length_take]; omega
            have HLN : Hid _ := hln
            have HT : Hid (Txs wr w1.heap.size (.slice to (t.attrs.map At.name ++ t.stages.map Ru.name ++ (t.marks.take i).map Ru.name).length tc) (t.attrs.map At.name ++ t.stages.map Ru.name ++ (t.marks.take i).map Ru.name)) := hT
            have HKr : Hid (Kept (fun _ => True) w1 wr) := hk
            clear hT hk hln
            by_cases hlt : i < t.marks.length
            · obtain ⟨b, off, rfl, hb, hc0, hc1⟩ := (HM.out.all HKr.out).at i hlt
              have HST : Hid ((t.marks.take (i + 1)).map Ru.name = (t.marks.take i).map Ru.name ++ [(t.marks[i]).name]) := map_take_succ _ _ _ hlt
              have i1 : (i : Int) < (t.marks.length : Int) := by omega
              have i0 : (0 : Int) ≤ (i : Int) := by omega
              generalize t.marks[i] = x at *
              have HK4 : Hid (Kept (fun _ => True) wr (wr.alloc (.cells #[Value.string ⟨x.name.toArray⟩, Value.string ⟨x.guard.toArray⟩] 90))) := (Kept.refl _ _).alloc _
              have HNB : Hid (∀ o : Obj, ((wr.alloc (.cells #[Value.string ⟨x.name.toArray⟩, Value.string ⟨x.guard.toArray⟩] 90)).alloc o).heap[wr.heap.size + 1]? = some o) := fun o => heap_alloc2_new wr _ o
              generalize hNs : (t.attrs.map At.name ++ t.stages.map Ru.name ++ (t.marks.take i).map Ru.name) = ns at *
              have HNS : Hid _ := hNs
              clear hNs
              go_wp2_with (at_builtin; refine wpList_append_text rfl (.tmp 43) (.tmp 46) rfl w1.heap.size (.slice to ns.length tc) ns rfl (HT.out.kept (p := fun _ => True) (HK4.out.alloc _) (fun _ _ => trivial)) (by have h1 := HKr.out.size; have h2 := (HK4.out.alloc (.cells #[.string ⟨x.name.toArray⟩] 9)).size; omega) (wr.heap.size + 1) rfl x.name (0, 0) (HNB.out _) (by have := HLN.out; omega) ?_; intro ao' cap' w' hW hG hO; have HW : Hid _ := hW; have HGr : Hid _ := hG; clear hW hG hO)
              go_roundw
              case rel =>
                refine ⟨i + 1, by omega, by go_num, ?_, ?_⟩
                · rw [HST.out, ← List.append_assoc, HNS.out]
                  exact HW.out
                · exact ((HKr.out.trans HK4.out).alloc _).grown HGr.out (fun k hk e => by have := (World.ownsRow.lt HT.out k e).1; omega)
              case measure => simp [intOf]; omega
            · have i1 : ¬ (i : Int) < (t.marks.length : Int) := by omega
              have hie : i = t.marks.length := by omega
              have hX2 := (HKr.out.block B (lt_of_block HX.out) trivial).trans HX.out
              obtain ⟨⟨y0, y1, y2, y3⟩, _⟩ := four_cell hX2
              have HT2 : Hid (Txs wr w1.heap.size (.slice to (t.attrs.map At.name ++ t.stages.map Ru.name ++ (t.marks.take i).map Ru.name).length tc) (t.attrs.map At.name ++ t.stages.map Ru.name ++ t.marks.map Ru.name)) := by
                have := HT.out
                rw [hie] at this ⊢
                rw [List.take_length] at this ⊢
                exact this
              generalize (t.attrs.map At.name ++ t.stages.map Ru.name ++ (t.marks.take i).map Ru.name).length = tl at *
              clear hX2 HT hie hlt
              go_wp2_with fail
              go_ret
              refine ⟨.slice to tl tc, rfl, ?_, K0.out.trans HKr.out⟩
              exact ownsRow_low HT2.out HSZ.out

end Go.Proofs.YtenejaghgehnoaaGreatDoor

namespace Go.Proofs.YtenejaghgehnoaaGreatDoor
open Go.Proofs Go.Shelf
def growQ_ren : Go.Shelf.Ren := ⟨fun | 4 => 187 | n => n, fun | 22 => 52 | 25 => 90 | 3 => 3 | 4 => 4 | 9 => 9 | 20 => 20 | 0 => 0 | n => n, fun | n => n⟩
theorem growQ : Go.Proofs.Lays8.n4 Tryz.prog growQ_ren := {
  mixed := by kernel_rfl
  f4 := ⟨Tryz.f187.name, by decide, Tryz.func187.trans (congrArg some (by kernel_rfl))⟩
  t0 := Tryz.underlying0
  a0 := Tryz.isAgg0
  z0 := Tryz.sizeOf0
  v0 := Tryz.zeroValue0
  t3 := Tryz.underlying3
  a3 := Tryz.isAgg3
  z3 := Tryz.sizeOf3
  v3 := Tryz.zeroValue3
  t4 := Tryz.underlying4
  a4 := Tryz.isAgg4
  z4 := Tryz.sizeOf4
  v4 := Tryz.zeroValue4
  t9 := Tryz.underlying9
  a9 := Tryz.isAgg9
  z9 := Tryz.sizeOf9
  v9 := Tryz.zeroValue9
  t20 := Tryz.underlying20
  a20 := Tryz.isAgg20
  z20 := Tryz.sizeOf20
  v20 := Tryz.zeroValue20
  t22 := Tryz.underlying52
  a22 := Tryz.isAgg52
  z22 := Tryz.sizeOf52
  v22 := Tryz.zeroValue52 }
end Go.Proofs.YtenejaghgehnoaaGreatDoor
