/-
  Texts of the proofs, 2 of 52.
-/
import Derived.Test.YtmcaoimgmgjjiaaWA
import Derived.Laws.BitsAllLaws
import Derived.Test.YtmcaoimgmgjjiaaRows
import Derived.WalkKit
import Derived.WalkSpells
import Derived.OwnWalk
import Derived.OneCell
import Derived.Laws.Pointers
import Derived.Laws.CopyOwn
import Derived.Laws.IdiomStrings
import Derived.Laws.BytesString
import Derived.Laws.AppendOwnNone
import Derived.Maps.AppendAt
import Derived.Deep.AppendLies
import Derived.Deep.AppendSrc
import Derived.Deep.Onto
import Derived.Deep.RegionHeld3
import Derived.Deep.QuietTactic
import Derived.BigQuiet
import Derived.Deep.DrawnRows
import Derived.KernelRfl
namespace Go.Proofs.Ytmcaoimgmgjjiaa
open Go.RowKit

structure Ur where
  k : Nat
  tx : List UInt8
  gs : List Nat
  bd : List UInt8
def encG (gs : List Nat) : List UInt8 := gs.flatMap fun g => enc (g : Nat) 1
def encR (r : Ur) : List UInt8 := enc (r.k : Nat) 1 ++ (enc (r.tx.length : Nat) 4 ++ r.tx) ++ enc (r.gs.length : Nat) 1 ++ encG r.gs ++ (enc (r.bd.length : Nat) 4 ++ r.bd)
def rdG (bs : List UInt8) (s : RS) : Nat → List Nat × RS
  | 0 => ([], s)
  | n + 1 => ((rdG bs s n).1 ++ [((rdG bs s n).2.num bs 1).1], ((rdG bs s n).2.num bs 1).2)
theorem rdG_len (bs : List UInt8) (s : RS) (n : Nat) : (rdG bs s n).1.length = n := by
  induction n with
  | zero => rfl
  | succ n ih => rw [rdG, List.length_append, ih]; rfl
def rdK (bs : List UInt8) : Nat × RS := (⟨0, 0⟩ : RS).num bs 1
def rdX (bs : List UInt8) : List UInt8 × RS := (rdK bs).2.text bs 4000
def rdC (bs : List UInt8) : Nat × RS := (rdX bs).2.num bs 1
def rdGs (bs : List UInt8) : List Nat × RS := rdG bs (rdC bs).2 (rdC bs).1
def rdD (bs : List UInt8) : List UInt8 × RS := (rdGs bs).2.text bs 4000
def rdR (bs : List UInt8) : Ur × RS := (⟨(rdK bs).1, (rdX bs).1, (rdGs bs).1, (rdD bs).1⟩, (rdD bs).2)
def upG : Int → List Nat → Bool
  | _, [] => true
  | a, g :: t => decide (a < (g : Int)) && decide (g < 3) && upG g t
def fmd (r : Ur) : Bool := (if r.k = 1 then decide (r.tx = []) else if r.k = 2 ∨ r.k = 3 ∨ r.k = 4 then decide (r.tx ≠ []) else false) && upG (-1) r.gs
def rec? (bs : List UInt8) : Option Ur := if ((rdR bs).2.end_ bs).1 = 0 ∧ fmd (rdR bs).1 = true then some (rdR bs).1 else none
theorem rec_kind {bs : List UInt8} {r : Ur} (h : rec? bs = some r) : fmd r = true := by
  unfold rec? at h
  split at h
  · rename_i q
    cases h
    exact q.2
  · cases h
theorem fmd_kind {r : Ur} (h : fmd r = true) : r.k = 1 ∨ r.k = 2 ∨ r.k = 3 ∨ r.k = 4 := by
  unfold fmd at h
  by_cases h1 : r.k = 1
  · exact .inl h1
  · by_cases h2 : r.k = 2 ∨ r.k = 3 ∨ r.k = 4
    · exact .inr h2
    · rw [if_neg h1, if_neg h2] at h
      cases h

theorem enc1_len (n : Int) : (enc n 1).length = 1 := enc_length n 1
theorem encG_len (gs : List Nat) : (encG gs).length = gs.length := by
  induction gs with
  | nil => rfl
  | cons g gs ih =>
    show (enc (g : Nat) 1 ++ encG gs).length = _
    rw [List.length_append, ih, enc1_len, List.length_cons]
    omega
theorem encG_append (a b : List Nat) : encG (a ++ b) = encG a ++ encG b := by simp [encG]
theorem encR_len (r : Ur) : (encR r).length = r.tx.length + r.gs.length + r.bd.length + 10 := by
  unfold encR
  simp only [List.length_append, enc_length, encG_len]
  omega
theorem rdG_back (pre post : List UInt8) (gs : List Nat) (hg : ∀ g ∈ gs, g < 256) : ∀ n, n ≤ gs.length → rdG (pre ++ encG gs ++ post) ⟨pre.length, 0⟩ n = (gs.take n, ⟨pre.length + n, 0⟩)
  | 0, _ => by simp [rdG]
  | n + 1, h => by
    rw [rdG, rdG_back pre post gs hg n (by omega)]
    have hn : n < gs.length := by omega
    have e : pre ++ encG gs ++ post = (pre ++ encG (gs.take n)) ++ enc (gs[n] : Nat) 1 ++ (encG (gs.drop (n + 1)) ++ post) := by
      have e1 : gs = gs.take n ++ gs[n] :: gs.drop (n + 1) := by rw [List.getElem_cons_drop, List.take_append_drop]
      have e2 : encG gs = encG (gs.take n) ++ (enc (gs[n] : Nat) 1 ++ encG (gs.drop (n + 1))) := by
        have h0 := congrArg encG e1
        rw [encG_append] at h0
        exact h0
      rw [e2]
      simp only [List.append_assoc]
    have l : (pre ++ encG (gs.take n)).length = pre.length + n := by rw [List.length_append, encG_len, List.length_take]; omega
    have hb := num_back (pre ++ encG (gs.take n)) (encG (gs.drop (n + 1)) ++ post) (gs[n] : Nat) 1
    rw [← e, l] at hb
    simp only [hb, Int.toNat_natCast]
    rw [Nat.mod_eq_of_lt (by have := hg gs[n] (List.getElem_mem _); omega), List.take_succ_eq_append_getElem hn]
    rfl
theorem rdR_back (r : Ur) (hk : r.k < 256) (ht : r.tx.length ≤ 4000) (hl : r.gs.length < 256) (hg : ∀ g ∈ r.gs, g < 256) (hd : r.bd.length ≤ 4000) : rdR (encR r) = (r, ⟨(encR r).length, 0⟩) := by
  have e1 : rdK (encR r) = (r.k, ⟨1, 0⟩) := by
    have := num_back [] ((enc (r.tx.length : Nat) 4 ++ r.tx) ++ enc (r.gs.length : Nat) 1 ++ encG r.gs ++ (enc (r.bd.length : Nat) 4 ++ r.bd)) (r.k : Nat) 1
    simp only [List.nil_append, List.length_nil, Int.toNat_natCast, Nat.zero_add] at this
    rw [Nat.mod_eq_of_lt (by omega)] at this
    unfold rdK encR
    rw [← this]
    simp only [List.append_assoc]
  have e2 : rdX (encR r) = (r.tx, ⟨5 + r.tx.length, 0⟩) := by
    have := text_back (enc (r.k : Nat) 1) (enc (r.gs.length : Nat) 1 ++ encG r.gs ++ (enc (r.bd.length : Nat) 4 ++ r.bd)) r.tx 4000 (by omega) (by omega)
    rw [enc_length] at this
    unfold rdX
    rw [e1]
    simp only
    unfold encR
    simp only [← List.append_assoc] at this ⊢
    rw [this]
  have e3 : rdC (encR r) = (r.gs.length, ⟨6 + r.tx.length, 0⟩) := by
    have := num_back (enc (r.k : Nat) 1 ++ (enc (r.tx.length : Nat) 4 ++ r.tx)) (encG r.gs ++ (enc (r.bd.length : Nat) 4 ++ r.bd)) (r.gs.length : Nat) 1
    have l : (enc (r.k : Nat) 1 ++ (enc (r.tx.length : Nat) 4 ++ r.tx)).length = 5 + r.tx.length := by simp only [List.length_append, enc_length]; omega
    rw [l, Int.toNat_natCast, Nat.mod_eq_of_lt (by omega)] at this
    unfold rdC
    rw [e2]
    simp only
    unfold encR
    simp only [← List.append_assoc] at this ⊢
    rw [this, show 5 + r.tx.length + 1 = 6 + r.tx.length by omega]
  have e4 : rdGs (encR r) = (r.gs, ⟨6 + r.tx.length + r.gs.length, 0⟩) := by
    have := rdG_back (enc (r.k : Nat) 1 ++ (enc (r.tx.length : Nat) 4 ++ r.tx) ++ enc (r.gs.length : Nat) 1) (enc (r.bd.length : Nat) 4 ++ r.bd) r.gs hg r.gs.length (Nat.le_refl _)
    have l : (enc (r.k : Nat) 1 ++ (enc (r.tx.length : Nat) 4 ++ r.tx) ++ enc (r.gs.length : Nat) 1).length = 6 + r.tx.length := by simp only [List.length_append, enc_length]; omega
    rw [l, List.take_length] at this
    unfold rdGs
    rw [e3]
    exact this
  have e5 : rdD (encR r) = (r.bd, ⟨(encR r).length, 0⟩) := by
    have := text_back (enc (r.k : Nat) 1 ++ (enc (r.tx.length : Nat) 4 ++ r.tx) ++ enc (r.gs.length : Nat) 1 ++ encG r.gs) [] r.bd 4000 (by omega) (by omega)
    have l : (enc (r.k : Nat) 1 ++ (enc (r.tx.length : Nat) 4 ++ r.tx) ++ enc (r.gs.length : Nat) 1 ++ encG r.gs).length = 6 + r.tx.length + r.gs.length := by simp only [List.length_append, enc_length, encG_len]; omega
    rw [l, List.append_nil] at this
    unfold rdD
    rw [e4, encR_len]
    simp only
    unfold encR
    simp only [← List.append_assoc] at this ⊢
    rw [this]
    congr 2
    omega
  unfold rdR
  rw [e5, e4, e2, e1]
theorem rec_back (r : Ur) (hf : fmd r = true) (ht : r.tx.length ≤ 4000) (hl : r.gs.length < 256) (hg : ∀ g ∈ r.gs, g < 256) (hd : r.bd.length ≤ 4000) : rec? (encR r) = some r := by
  have hk : r.k < 256 := by rcases fmd_kind hf with h | h | h | h <;> omega
  unfold rec?
  rw [rdR_back r hk ht hl hg hd]
  simp [RS.end_, hf]

structure K4 where
  o : Bool
  p : Bool
  c : Bool
  a : Bool
def K4.val (K : K4) : Nat := (if K.o then 2 else 0) + (if K.p then 4 else 0) + (if K.c then 8 else 0) + (if K.a then 16 else 0)
def K4.has (K : K4) (k : Nat) : Bool := if k = 1 then K.o else if k = 2 then K.p else if k = 3 then K.c else if k = 4 then K.a else false
def K4.put (K : K4) (k : Nat) : K4 := ⟨K.o || k == 1, K.p || k == 2, K.c || k == 3, K.a || k == 4⟩
def K4.nil : K4 := ⟨false, false, false, false⟩
end Go.Proofs.Ytmcaoimgmgjjiaa

namespace Go.Proofs.Ytmcaoimgmgjjiaa
open Go.RowKit

def cells (bs : List UInt8) : List Value := bs.map fun b => Value.int .u8 b.toNat

theorem cells_length (bs : List UInt8) : (cells bs).length = bs.length := by simp [cells]
theorem cells_append (a b : List UInt8) : cells (a ++ b) = cells a ++ cells b := by simp [cells]
theorem cells_one (bs : List UInt8) : ∀ u ∈ cells bs, u.oneCell' = true := by
  intro u hu
  obtain ⟨_, _, rfl⟩ := List.mem_map.1 hu
  rfl
theorem cells_getElem (bs : List UInt8) (k : Nat) (h : k < bs.length) : (cells bs)[k]? = some (.int .u8 (bs[k]).toNat) := by
  simp [cells, h]

structure Kept (p : Nat → Prop) (w w' : World) : Prop where
  os : w'.os = w.os
  tape : w'.tape = w.tape
  output : w'.output = w.output
  size : w.heap.size ≤ w'.heap.size
  block : ∀ k, k < w.heap.size → p k → w'.heap[k]? = w.heap[k]?

theorem Kept.refl (p : Nat → Prop) (w : World) : Kept p w w := ⟨rfl, rfl, rfl, Nat.le_refl _, fun _ _ _ => rfl⟩
theorem Kept.trans {p : Nat → Prop} {a b c : World} (h : Kept p a b) (k : Kept p b c) : Kept p a c :=
  ⟨k.os.trans h.os, k.tape.trans h.tape, k.output.trans h.output, Nat.le_trans h.size k.size, fun i hi hp => (k.block i (Nat.lt_of_lt_of_le hi h.size) hp).trans (h.block i hi hp)⟩
theorem Kept.then {p q : Nat → Prop} {a b c : World} (h : Kept p a b) (k : Kept q b c) (hq : ∀ i, i < a.heap.size → p i → q i) : Kept p a c :=
  ⟨k.os.trans h.os, k.tape.trans h.tape, k.output.trans h.output, Nat.le_trans h.size k.size, fun i hi hp => (k.block i (Nat.lt_of_lt_of_le hi h.size) (hq i hi hp)).trans (h.block i hi hp)⟩
theorem Kept.mono {p q : Nat → Prop} {a b : World} (h : Kept p a b) (hq : ∀ i, i < a.heap.size → q i → p i) : Kept q a b :=
  ⟨h.os, h.tape, h.output, h.size, fun i hi hp => h.block i hi (hq i hi hp)⟩
theorem Kept.drew {p : Nat → Prop} {a w : World} (h : Kept p a w) : Kept p a w.drew := ⟨h.os, h.tape, h.output, h.size, h.block⟩
theorem Kept.drewN {p : Nat → Prop} {a w : World} (h : Kept p a w) (n : Nat) : Kept p a (w.drewN n) := ⟨h.os, h.tape, h.output, h.size, h.block⟩
theorem Kept.alloc {p : Nat → Prop} {a w : World} (h : Kept p a w) (o : Obj) : Kept p a (w.alloc o) :=
  h.trans ⟨rfl, rfl, rfl, by simp, fun k hk _ => Below.heap_alloc _ _ _ hk⟩
theorem Kept.setCell {p : Nat → Prop} {a w : World} (h : Kept p a w) {ad : Addr} (hp : ¬ p ad.block) (u : Value) : Kept p a (w.setCell ad u) :=
  h.trans ⟨rfl, rfl, rfl, by simp [World.setCell], fun k _ hk => Below.heap_setCell _ _ _ _ (fun e => hp (e ▸ hk))⟩
theorem Kept.grown {p : Nat → Prop} {a w w' : World} {row : Option Nat} (h : Kept p a w) (hg : w.grownBy w' row) (hr : ∀ k, k < a.heap.size → row = some k → ¬ p k) : Kept p a w' :=
  ⟨hg.os.trans h.os, hg.tape.trans h.tape, hg.output.trans h.output, Nat.le_trans h.size hg.size,
   fun k hk hp => (hg.block k (Nat.lt_of_lt_of_le hk h.size) (fun e => hr k hk e.symm hp)).trans (h.block k hk hp)⟩
theorem Kept.below {w w' : World} (h : Kept (fun _ => True) w w') : Below w.heap.size w w' :=
  ⟨h.os, h.tape, h.output, h.size, fun k hk => h.block k hk trivial⟩
theorem Try.infoU8 : (Try.prog.info? 5).map (fun i => (i.zero, i.size, i.bytes)) = some (some (.int .u8 0), 1, 1) := by kernel_rfl
theorem Try.elemBytes : Try.prog.elem 25 = 5 := by kernel_rfl
theorem size_u8 (w0 : World) : (sizeOf (Try.prog.elem 25)).run Try.prog w0 = .ok 1 w0 := by
  obtain ⟨i, hi, hz0, hz1, hz2⟩ := info_parts Try.infoU8
  rw [Try.elemBytes]
  simp [sizeOf, typeInfo, hi, hz1]

theorem row_cells {w : World} {R : Nat} {cur : Array Value} {t : TypeId} {fr : Nat × Nat} {bs : List UInt8} (hc : w.heap[R]? = some (.cells cur t fr)) (ht : cur.toList.take bs.length = cells bs) (k : Nat) (hk : k < bs.length) : w.cell? ⟨R, k, none⟩ = some (.int .u8 (bs[k]).toNat) := by
  rw [cell_of_row w R k cur _ _ hc]
  have := cells_getElem bs k hk
  rw [← ht, List.getElem?_take, if_pos hk] at this
  simpa using this

theorem conv_run (w : World) (a : Addr) (cap : Nat) (l : List UInt8) (hc : ∀ j (hj : j < l.length), w.cell? (a.add j) = some (.int .u8 (l[j].toNat : Int))) :
    (convert 25 9 (.slice (some a) l.length cap)).run Try.prog w = .ok (.string ⟨l.toArray⟩) w :=
  run_convert_bytes_back (P := Try.prog) w 25 9 5 a cap l Try.underlying25 Try.underlying5 Try.underlying9 hc

def Has (w : World) (ao : Option Addr) (bs : List UInt8) : Prop := 0 < bs.length → ∃ ad, ao = some ad ∧ ∀ j (hj : j < bs.length), w.cell? (ad.add j) = some (.int .u8 (bs[j].toNat : Int))
theorem Has.src {w : World} {ad : Addr} {bs : List UInt8} (h : ∀ j (hj : j < bs.length), w.cell? (ad.add j) = some (.int .u8 (bs[j].toNat : Int))) : ∀ j v, (cells bs)[j]? = some v → w.cell? (ad.add j) = some v := by
  intro j v hv
  have hj : j < bs.length := by
    have := (List.getElem?_eq_some_iff.1 hv).1
    simpa [cells] using this
  rw [h j hj]
  rw [cells_getElem bs j hj] at hv
  exact hv
theorem Try.infoSize : (Try.prog.info? 5).map (·.size) = some 1 := by
  obtain ⟨i, hi, hz0, hz1, hz2⟩ := info_parts Try.infoU8
  rw [hi]; simp [hz1]

theorem Kept.setRow {p : Nat → Prop} {a w : World} (h : Kept p a w) {g : Nat} (hp : ¬ p g) (cs : Array Value) : Kept p a (w.setRow g cs) :=
  h.trans ⟨rfl, rfl, rfl, by simp [World.setRow], fun k _ hk => setRow_other w g k cs (fun e => hp (e ▸ hk))⟩

theorem copy_fill (W : World) (g : Nat) (cur : Array Value) (bs : List UInt8) (ao : Option Addr) (cap : Nat) (hg : W.heap[g]? = some (.cells cur 5 (0, 0))) (hc : cur.size = bs.length) (hs : Has W ao bs) :
    ∃ W', (Builtin.copy_ #[25, 25] 3 #[.slice (some ⟨g, 0, none⟩) bs.length bs.length, .slice ao bs.length cap]).run Try.prog W = .ok (.int .i64 bs.length) W' ∧
      W'.heap[g]? = some (.cells (cells bs).toArray 5 (0, 0)) ∧ Kept (· ≠ g) W W' ∧ W'.heap.size = W.heap.size := by
  by_cases h0 : 0 < bs.length
  · obtain ⟨ad, rfl, hcell⟩ := hs h0
    have hrun := run_copy_row (P := Try.prog) W 25 25 3 5 g 0 bs.length bs.length ad bs.length cap cur 5 (cells bs) Try.underlying25 Try.infoSize hg (by simp [cells_length]) (Has.src hcell) (by rw [cells_length]; omega) (cells_one bs)
    refine ⟨_, ?_, setRow_heap W g _ (cells bs).toArray 5 _ hg, (Kept.refl _ _).setRow (by simp) _, by simp [World.setRow]⟩
    rw [hrun]
    have e : (List.take 0 cur.toList ++ cells bs ++ List.drop (0 + (cells bs).length) cur.toList) = cells bs := by
      rw [cells_length, Nat.zero_add, List.drop_eq_nil_of_le (by simp [hc])]
      simp
    rw [e, cells_length]
    rfl
  · have hn : bs = [] := List.eq_nil_of_length_eq_zero (by omega)
    subst hn
    refine ⟨W, run_copy_none (P := Try.prog) W 25 25 3 5 _ _ _ _ _ _ Try.underlying25 Try.infoSize (by simp), ?_, Kept.refl _ _, rfl⟩
    have : cur = #[] := Array.eq_empty_of_size_eq_zero (by simpa using hc)
    rw [hg, this]; rfl

theorem Has.kept {p : Nat → Prop} {w w' : World} {ao : Option Addr} {bs : List UInt8} (h : Has w ao bs) (hk : Kept p w w') (hp : ∀ ad, ao = some ad → p ad.block) : Has w' ao bs := by
  intro h0
  obtain ⟨ad, rfl, hc⟩ := h h0
  refine ⟨ad, rfl, fun j hj => ?_⟩
  have hb : (ad.add j).block = ad.block := by unfold Addr.add; split <;> rfl
  have hlt : ad.block < w.heap.size := by
    have := World.block_lt_of_cell? w _ (hc j hj)
    rwa [hb] at this
  rw [World.cell?_of_block (w := w) (by rw [hb]; exact hk.block ad.block hlt (hp ad rfl))]
  exact hc j hj

theorem made_row {w1 : World} {base g n : Nat} {xs : List Value} (h : w1.ownsRow base 5 1 (.slice (some ⟨g, 0, none⟩) n n) n xs) : ∃ cur : Array Value, w1.heap[g]? = some (.cells cur 5 (0, 0)) ∧ cur.size = n := by
  rcases h.2 with ⟨hv, _⟩ | ⟨g', cap, cur, hv, _, hh, _, _, hs, _⟩
  · simp at hv
  · simp at hv
    obtain ⟨rfl, rfl⟩ := hv
    exact ⟨cur, hh, by simpa using hs⟩

theorem own_shape {w : World} {b e n : Nat} {v : Value} {xs : List Value} (h : w.ownsRow b e 1 v n xs) : ∃ ao cap, v = .slice ao n cap := by
  rcases h.2 with ⟨e, rfl⟩ | ⟨g, cap, _, e, _⟩
  · exact ⟨_, _, e⟩
  · exact ⟨_, _, e⟩

theorem own_has {w : World} {b : Nat} {ao : Option Addr} {n cap : Nat} {bs : List UInt8} (h : w.ownsRow b 5 1 (.slice ao n cap) bs.length (cells bs)) : Has w ao bs := by
  intro h0
  rcases h.2 with ⟨_, h1⟩ | ⟨g, cap', cur, hv, _, hh, _, _, _, ht⟩
  · omega
  · injection hv with e1 e2 e3
    subst e1
    refine ⟨_, rfl, fun j hj => ?_⟩
    have e : (⟨g, 0, none⟩ : Addr).add j = ⟨g, j, none⟩ := by simp [Addr.add]; omega
    rw [e]
    exact row_cells hh (by simpa using ht) j hj

theorem has_row {w : World} {D : Nat} {bs : List UInt8} {fr : Nat × Nat} (h : w.heap[D]? = some (.cells (cells bs).toArray 5 fr)) : Has w (some ⟨D, 0, none⟩) bs := by
  intro _
  refine ⟨_, rfl, fun j hj => ?_⟩
  have e : (⟨D, 0, none⟩ : Addr).add j = ⟨D, j, none⟩ := by simp [Addr.add]; omega
  rw [e]
  exact row_cells h (List.take_of_length_le (by simp [cells_length])) j hj
def Sl (w : World) (v : Value) (bs : List UInt8) : Prop := ∃ ao cap, v = .slice ao bs.length cap ∧ (ao = none → cap = 0) ∧ Has w ao bs

theorem own_sl {w : World} {b : Nat} {v : Value} {bs : List UInt8} (h : w.ownsRow b 5 1 v bs.length (cells bs)) : Sl w v bs := by
  rcases h.2 with ⟨rfl, h0⟩ | ⟨g, cap, cur, rfl, _⟩
  · exact ⟨none, 0, by rw [h0], fun _ => rfl, by intro h; omega⟩
  · exact ⟨_, _, rfl, by simp, own_has h⟩

theorem append_has (w : World) (ty : TypeId) (base : Nat) (v : Value) (n : Nat) (xs : List Value) (hown : w.ownsRow base 5 1 v n xs) (hbase : base ≤ w.heap.size) (ao : Option Addr) (m cap : Nat) (bs : List UInt8) (hm : bs.length = m) (hn : ao = none → cap = 0) (hs : Has w ao bs) (hb : n + m ≤ 140737488355328) :
    ∃ v' w', (Builtin.append_ #[25, 25] ty #[v, .slice ao m cap]).run Try.prog w = .ok v' w' ∧ w'.ownsRow base 5 1 v' (n + m) (xs ++ cells bs) ∧ w.grownBy w' v.ownBlock ∧
      (v'.ownBlock = v.ownBlock ∨ v'.ownBlock = some w.heap.size) := by
  obtain ⟨i, hi, hz0, hz1, hz2⟩ := info_parts Try.infoU8
  subst hm
  cases ao with
  | none =>
    have hc := hn rfl
    have h0 : bs.length = 0 := by
      rcases Nat.eq_zero_or_pos bs.length with h | h
      · exact h
      · obtain ⟨ad, e, _⟩ := hs h; cases e
    subst hc
    have : bs = [] := List.eq_nil_of_length_eq_zero h0
    subst this
    have hrun := run_append_owned_none (P := Try.prog) (w := w) base 25 ty 5 i 1 Try.underlying25 hi v n xs hown
    exact ⟨v, w, hrun, by simpa [cells] using hown, ⟨rfl, rfl, rfl, Nat.le_refl _, fun _ _ _ => rfl⟩, .inl rfl⟩
  | some ad =>
    have hsrc : ∀ j u, (cells bs)[j]? = some u → w.cell? (ad.add j) = some u := by
      intro j u hu
      have hj : j < bs.length := by
        have := (List.getElem?_eq_some_iff.1 hu).1
        simpa [cells] using this
      obtain ⟨ad', e, hc⟩ := hs (by omega)
      cases e
      exact Has.src hc j u hu
    obtain ⟨v', w', hr, h1, h2, _, h4⟩ := run_append_own_at (P := Try.prog) w base 25 ty 5 i (.int .u8 0) 1 1 Try.underlying25 hi hz0 hz1 hz2 rfl (by decide) v n xs hown ad bs.length cap (cells bs) (by simp [cells_length]) hsrc (cells_one bs) (by unfold maxLen; omega) (by omega) hbase
    exact ⟨v', w', hr, h1, h2, h4⟩

theorem wpList_append_has {w : World} {ops : Array Oper} {rest : List Oper} {o : Oper} {a : Act} {Q : Exit → Act → World → Prop} (hgd : o.guard = none) (sl x : Operand)
    (ho : o.op = .call { callee := .builtin .append, args := #[sl, x], argTypes := #[25, 25] })
    (base : Nat) (v : Value) (n : Nat) (xs : List Value) (hs : a.eval sl = v) (hown : w.ownsRow base 5 1 v n xs) (hbase : base ≤ w.heap.size) (ao : Option Addr) (m cap : Nat) (hx : a.eval x = .slice ao m cap) (bs : List UInt8) (hm : bs.length = m) (hn : ao = none → cap = 0) (hh : Has w ao bs) (hb : n + m ≤ 140737488355328)
    (h : ∀ ao' cap' w', w'.ownsRow base 5 1 (.slice ao' (n + m) cap') (n + m) (xs ++ cells bs) → w.grownBy w' v.ownBlock → ((Value.slice ao' (n + m) cap').ownBlock = v.ownBlock ∨ (Value.slice ao' (n + m) cap').ownBlock = some w.heap.size) → wpList Try.prog ops Q rest (a.put o.dst (.slice ao' (n + m) cap')) w') : wpList Try.prog ops Q (o :: rest) a w := by
  refine wpList_plain hgd fun K hK => ?_
  obtain ⟨v', w', hr, h2, h3, h4⟩ := append_has w o.type base v n xs hown hbase ao m cap bs hm hn hh hb
  obtain ⟨ao', cap', rfl⟩ := own_shape h2
  unfold Oper.wp execOp
  simp only [ho, resolve, invoke, builtin, Sem.run_bind, Sem.run_pure, Result.andThen_ok, List.map_toArray, List.map_cons, List.map_nil, hs, hx, hr]
  exact hK _ _ (h ao' cap' w' h2 h3 h4)

theorem own_new (w : World) (base : Nat) (hb : base ≤ w.heap.size) : (w.alloc (.cells #[] 5)).ownsRow base 5 1 (.slice (some ⟨w.heap.size, 0, none⟩) 0 0) 0 [] :=
  ⟨by simp, .inr ⟨w.heap.size, 0, #[], rfl, hb, heap_alloc_new w _, Nat.zero_le _, by unfold maxLen; omega, by simp, by simp⟩⟩

theorem fresh_one {w w1 : World} {o : Obj} (hg1 : (w.alloc o).grownBy w1 (some w.heap.size)) : Kept (fun _ => True) w w1 :=
  ((Kept.refl _ _).alloc o).grown hg1 (fun k hk e => by cases e; omega)
theorem fresh_two {w w1 w2 : World} {o o1 : Obj} {v : Value} (hg1 : (w.alloc o).grownBy w1 (some w.heap.size)) (hg2 : (w1.alloc o1).grownBy w2 v.ownBlock) (hl : v.ownBlock = some w.heap.size ∨ v.ownBlock = some (w.alloc o).heap.size) : Kept (fun _ => True) w w2 := by
  have k1 : Kept (fun _ => True) w w1 := ((Kept.refl _ _).alloc o).grown hg1 (fun k hk e => by cases e; omega)
  refine (k1.alloc o1).grown hg2 (fun k hk e => ?_)
  rcases hl with h | h
  · rw [h] at e; cases e; omega
  · rw [h] at e; cases e; simp at hk; omega

theorem conv_own {w : World} {b : Nat} {v : Value} {bs : List UInt8} (h : w.ownsRow b 5 1 v bs.length (cells bs)) :
    (convert 25 9 v).run Try.prog w = .ok (.string ⟨bs.toArray⟩) w := by
  rcases h.2 with ⟨rfl, h0⟩ | ⟨g, cap, cur, rfl, _, hh, _, _, _, ht⟩
  · have : bs = [] := List.eq_nil_of_length_eq_zero h0
    subst this
    rw [run_convert_bytes_string w 25 9 5 none 0 0 Try.underlying25 Try.underlying5 Try.underlying9]
    simp [Conv.bytesToString]
    rfl
  · refine conv_run w _ cap bs (fun j hj => ?_)
    have e : (⟨g, 0, none⟩ : Addr).add j = ⟨g, j, none⟩ := by simp [Addr.add]; omega
    rw [e]
    exact row_cells hh (by simpa using ht) j hj

theorem conv_sl {w : World} {v : Value} {bs : List UInt8} (h : Sl w v bs) : (convert 25 9 v).run Try.prog w = .ok (.string ⟨bs.toArray⟩) w := by
  obtain ⟨ao, cap, rfl, hn, hh⟩ := h
  rcases Nat.eq_zero_or_pos bs.length with h0 | h0
  · have : bs = [] := List.eq_nil_of_length_eq_zero h0
    subst this
    cases ao with
    | none =>
      show (convert 25 9 (.slice none 0 cap)).run Try.prog w = _
      rw [run_convert_bytes_string w 25 9 5 none 0 cap Try.underlying25 Try.underlying5 Try.underlying9]
      simp [Conv.bytesToString]
      rfl
    | some ad => exact conv_run w ad cap [] (fun j hj => by simp at hj)
  · obtain ⟨ad, rfl, hc⟩ := hh h0
    exact conv_run w ad cap bs hc
theorem kept_cell {p : Nat → Prop} {w w' : World} (h : Kept p w w') {b o : Nat} (hlt : b < w.heap.size) (hp : p b) : w'.cell? ⟨b, o, none⟩ = w.cell? ⟨b, o, none⟩ := World.cell?_of_block (w := w) (h.block b hlt hp)
theorem kept_frozen {p : Nat → Prop} {w w' : World} (h : Kept p w w') {b o : Nat} (hlt : b < w.heap.size) (hp : p b) : w'.frozen? ⟨b, o, none⟩ = w.frozen? ⟨b, o, none⟩ := World.frozen?_of_block (w := w) (h.block b hlt hp)
theorem drew_two (w : World) (a b : Nat) : (w.drewN a).drewN b = w.drewN (a + b) := by simp [World.drewN, Nat.add_assoc]

theorem has_plain {w : World} {ao : Option Addr} {bs : List UInt8} (h : Has w ao bs) (h0 : 0 < bs.length) : ∃ b off, ao = some ⟨b, off, none⟩ ∧ ∀ j (hj : j < bs.length), w.cell? ⟨b, off + j, none⟩ = some (.int .u8 (bs[j]).toNat) := by
  obtain ⟨⟨b, off, spot⟩, rfl, hc⟩ := h h0
  have hs : spot = none := by simpa [Addr.add] using World.cell?_spot (hc 0 h0)
  subst hs
  exact ⟨b, off, rfl, fun j hj => by rw [← WideShapes.add_plain]; exact hc j hj⟩

end Go.Proofs.Ytmcaoimgmgjjiaa
