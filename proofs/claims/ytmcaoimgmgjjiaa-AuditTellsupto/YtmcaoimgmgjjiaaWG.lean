/-
  Texts of the proofs, 7 of 52.
-/
import Derived.Test.YtmcaoimgmgjjiaaWF
import Derived.Laws.Rows
import Derived.Laws.Tables
import Derived.Laws.World
import Derived.Deep.WholeRow
namespace Go.Proofs.Ytmcaoimgmgjjiaa
open Go.RowKit

theorem getD_at {α : Type} (l : List α) {i : Nat} (h : i < l.length) {d : α} : l.getD i d = l[i] := by simp [List.getD, h]
theorem and31 (n : Nat) (h0 : 0 < n) (h1 : n < 32) : bits BinOp.and .u64 (IntKind.u64.wrap (-(n : Int))) 31 = ((32 - n : Nat) : Int) := by
  have e : IntKind.u64.wrap (-(n : Int)) = ((18446744073709551616 - n : Nat) : Int) := by
    simp [IntKind.wrap, IntKind.bits, IntKind.signed]; omega
  rw [e]
  have := u64_and_nat (18446744073709551616 - n) 31 (by omega) (by decide)
  rw [show (31 : Nat) = 2 ^ 5 - 1 from rfl, Nat.and_two_pow_sub_one_eq_mod] at this
  have e2 : (18446744073709551616 - n) % 2 ^ 5 = 32 - n := by omega
  rw [e2] at this
  exact this

theorem rot_eq (x n : Nat) (hx : x < 4294967296) (h1 : n < 32) : bits BinOp.or .u32 ((x : Int) * 2 ^ (32 - n) % 4294967296) ((x : Int) / 2 ^ (32 - (32 - n))) = ((rotr x n : Nat) : Int) := by
  have e1 : (x : Int) / 2 ^ (32 - (32 - n)) = ((x / 2 ^ n : Nat) : Int) := by
    rw [show 32 - (32 - n) = n by omega]
    simp
  have e2 : (x : Int) * 2 ^ (32 - n) % 4294967296 = ((x * 2 ^ (32 - n) % 4294967296 : Nat) : Int) := by simp
  rw [e1, e2, u32_or_nat _ _ (Nat.mod_lt _ (by decide)) (div_lt32 _ hx), Nat.or_comm]
  rfl

set_option maxHeartbeats 1000000 in
theorem rot_any {w : World} (x n : Nat) (hx : x < 4294967296) (h0 : 0 < n) (h1 : n < 32) :
    Calls Try.prog 102 #[.int .u32 x, .int .i64 (-(n : Int))] w fun e w' => e = .returned (.int .u32 (rotr x n : Nat)) ∧ w' = w := by
  have ha := and31 n h0 h1
  have hr := rot_eq x n hx h1
  go_enter Try.func102, Try.ntmps102
  go_wp2
  go_ret
  exact ⟨rfl, rfl⟩

set_option maxHeartbeats 1000000 in
theorem turn_any {w : World} (x n : Nat) (hx : x < 4294967296) (h0 : 0 < n) (h1 : n < 32) :
    Calls Try.prog 101 #[.int .u32 x, .int .i64 n] w fun e w' => e = .returned (.int .u32 (rotr x n : Nat)) ∧ w' = w := by
  have c := rot_any (w := w) x n hx h0 h1
  go_enter Try.func101, Try.ntmps101
  go_wp2_with (go_at_call 102; refine Calls.mono c ?_; rintro e _ ⟨rfl, rfl⟩)
  go_ret
  exact ⟨rfl, rfl⟩

set_option maxHeartbeats 1000000 in
theorem turns_any {w : World} (x n m k : Nat) (hx : x < 4294967296) (hn : 0 < n ∧ n < 32) (hm : 0 < m ∧ m < 32) (hk : 0 < k ∧ k < 32) :
    Calls Try.prog 99 #[.int .u32 x, .int .i64 n, .int .i64 m, .int .i64 k] w fun e w' => e = .returned (.int .u32 (rotr x n ^^^ rotr x m ^^^ rotr x k : Nat)) ∧ w' = w := by
  have c1 := turn_any (w := w) x n hx hn.1 hn.2
  have c2 := turn_any (w := w) x m hx hm.1 hm.2
  have c3 := turn_any (w := w) x k hx hk.1 hk.2
  have r1 := rotr_lt x n hx
  have r2 := rotr_lt x m hx
  have r3 := rotr_lt x k hx
  generalize rotr x n = a at *
  generalize rotr x m = b at *
  generalize rotr x k = c at *
  have x1 := xor_bits a b r1 r2
  have x2 := xor_bits (a ^^^ b) c (xor_lt32 r1 r2) r3
  go_enter Try.func99, Try.ntmps99
  go_wp2_with fail
  refine Calls.mono c1 ?_
  rintro e _ ⟨rfl, rfl⟩
  go_wp2_with fail
  refine Calls.mono c2 ?_
  rintro e _ ⟨rfl, rfl⟩
  go_wp2_with fail
  refine Calls.mono c3 ?_
  rintro e _ ⟨rfl, rfl⟩
  go_wp2
  go_ret
  exact ⟨rfl, rfl⟩

theorem word_or (a b c d : Nat) (_ha : a < 256) (hb : b < 256) (hc : c < 256) (hd : d < 256) : ((a * 16777216 ||| b * 65536) ||| c * 256) ||| d = a * 16777216 + b * 65536 + c * 256 + d := by
  have e1 : a * 16777216 ||| b * 65536 = a * 16777216 + b * 65536 := by
    have := Nat.two_pow_add_eq_or_of_lt (i := 24) (b := b * 65536) (by omega) a
    rw [show (2 : Nat) ^ 24 = 16777216 from rfl, Nat.mul_comm 16777216 a] at this
    exact this.symm
  have e2 : (a * 16777216 + b * 65536) ||| c * 256 = a * 16777216 + b * 65536 + c * 256 := by
    have := Nat.two_pow_add_eq_or_of_lt (i := 16) (b := c * 256) (by omega) (a * 256 + b)
    rw [show (2 : Nat) ^ 16 * (a * 256 + b) = a * 16777216 + b * 65536 by omega] at this
    exact this.symm
  have e3 : (a * 16777216 + b * 65536 + c * 256) ||| d = a * 16777216 + b * 65536 + c * 256 + d := by
    have := Nat.two_pow_add_eq_or_of_lt (i := 8) (b := d) (by omega) (a * 65536 + b * 256 + c)
    rw [show (2 : Nat) ^ 8 * (a * 65536 + b * 256 + c) = a * 16777216 + b * 65536 + c * 256 by omega] at this
    exact this.symm
  rw [e1, e2, e3]

theorem word_bits (a b c d : Nat) (ha : a < 256) (hb : b < 256) (hc : c < 256) (hd : d < 256) :
    bits BinOp.or .u32 (bits BinOp.or .u32 (bits BinOp.or .u32 ((a : Int) * 16777216) ((b : Int) * 65536)) ((c : Int) * 256)) (d : Int) = ((a * 16777216 + b * 65536 + c * 256 + d : Nat) : Int) := by
  have h1 : bits BinOp.or .u32 ((a : Int) * 16777216) ((b : Int) * 65536) = ((a * 16777216 ||| b * 65536 : Nat) : Int) := u32_or_nat (a * 16777216) (b * 65536) (by omega) (by omega)
  have l1 := or_lt32 (a := a * 16777216) (b := b * 65536) (by omega) (by omega)
  have h2 : bits BinOp.or .u32 ((a * 16777216 ||| b * 65536 : Nat) : Int) ((c : Int) * 256) = (((a * 16777216 ||| b * 65536) ||| c * 256 : Nat) : Int) := u32_or_nat _ (c * 256) l1 (by omega)
  have l2 := or_lt32 (b := c * 256) l1 (by omega)
  rw [h1, h2, u32_or_nat _ d l2 (by omega), word_or a b c d ha hb hc hd]

set_option maxHeartbeats 1000000 in
theorem word_any {w : World} {ao : Option Addr} {cap : Nat} {bs : List UInt8} (hh : Has w ao bs) (h4 : 4 ≤ bs.length) (hl : (bs.length : Int) ≤ 1000000) :
    Calls Try.prog 100 #[.slice ao bs.length cap] w fun e w' => e = .returned (.int .u32 (wordAt bs 0 : Nat)) ∧ ∃ m, w' = w.drewN m := by
  obtain ⟨b, o, rfl, hc⟩ := has_plain hh (by omega)
  have c0 := hc 0 (by omega)
  have c1 := hc 1 (by omega)
  have c2 := hc 2 (by omega)
  have c3 := hc 3 (by omega)
  rw [Nat.add_zero] at c0
  have hwd : wordAt bs 0 = (bs[0]).toNat * 16777216 + (bs[1]).toNat * 65536 + (bs[2]).toNat * 256 + (bs[3]).toNat := by
    unfold wordAt
    rw [getD_at _ (show 0 < bs.length by omega), getD_at _ (show 0 + 1 < bs.length by omega), getD_at _ (show 0 + 2 < bs.length by omega), getD_at _ (show 0 + 3 < bs.length by omega)]
  have y0 := (bs[0]).toNat_lt
  have y1 := (bs[1]).toNat_lt
  have y2 := (bs[2]).toNat_lt
  have y3 := (bs[3]).toNat_lt
  have hb := word_bits (bs[0]).toNat (bs[1]).toNat (bs[2]).toNat (bs[3]).toNat y0 y1 y2 y3
  rw [← hwd] at hb
  clear hwd hc hh
  generalize (bs[0]).toNat = b0 at *
  generalize (bs[1]).toNat = b1 at *
  generalize (bs[2]).toNat = b2 at *
  generalize (bs[3]).toNat = b3 at *
  generalize wordAt bs 0 = r at *
  have g0 : (0 : Int) < (bs.length : Int) := by omega
  have g1 : (1 : Int) < (bs.length : Int) := by omega
  have g2 : (2 : Int) < (bs.length : Int) := by omega
  have g3 : (3 : Int) < (bs.length : Int) := by omega
  go_enter Try.func100, Try.ntmps100
  go_wp2
  go_quiet (fail)
  go_wp2
  go_ret
  exact ⟨rfl, _, rfl⟩

end Go.Proofs.Ytmcaoimgmgjjiaa

namespace Go.Proofs.Ytmcaoimgmgjjiaa
open Go.RowKit

def wcells (ws : List Nat) : List Value := ws.map fun (n : Nat) => Value.int .u32 n
theorem wcells_length (ws : List Nat) : (wcells ws).length = ws.length := by simp [wcells]
theorem wcells_get (ws : List Nat) (i : Nat) (h : i < ws.length) : (wcells ws)[i]? = some (.int .u32 (ws[i] : Nat)) := by simp [wcells, h]
theorem wcells_set (ws : List Nat) (i n : Nat) : (wcells ws).set i (.int .u32 n) = wcells (ws.set i n) := by simp [wcells, List.map_set]
theorem wcells_one (ws : List Nat) : ∀ u ∈ wcells ws, u.oneCell' = true := by
  intro u hu
  obtain ⟨_, _, rfl⟩ := List.mem_map.1 hu
  rfl
theorem cells_set (bs : List UInt8) (i : Nat) (b : UInt8) : (cells bs).set i (.int .u8 b.toNat) = cells (bs.set i b) := by simp [cells, List.map_set]

def Ar (w : World) (b t : Nat) (xs : List Value) : Prop := w.heap[b]? = some (.cells xs.toArray t (0, 0))
theorem Ar.lt {w : World} {b t : Nat} {xs : List Value} (h : Ar w b t xs) : b < w.heap.size := lt_of_block h
theorem Ar.cell {w : World} {b t : Nat} {xs : List Value} (h : Ar w b t xs) (i : Nat) : w.cell? ⟨b, i, none⟩ = xs[i]? := by
  rw [cell_of_row w b i _ _ _ h]
  simp
theorem Ar.word {w : World} {b t : Nat} {ws : List Nat} (h : Ar w b t (wcells ws)) (i : Nat) (hi : i < ws.length) : w.cell? ⟨b, i, none⟩ = some (.int .u32 (ws[i] : Nat)) := (h.cell i).trans (wcells_get ws i hi)
theorem Ar.free {w : World} {b t : Nat} {xs : List Value} (h : Ar w b t xs) (i : Nat) : w.frozen? ⟨b, i, none⟩ = false := by
  unfold Ar at h
  simp [World.frozen?, h]
theorem Ar.kept {p : Nat → Prop} {w w' : World} {b t : Nat} {xs : List Value} (h : Ar w b t xs) (hk : Kept p w w') (hb : p b) : Ar w' b t xs := (hk.block b h.lt hb).trans h
theorem Ar.set {w : World} {b t : Nat} {xs : List Value} (h : Ar w b t xs) (i : Nat) (u : Value) : Ar (w.setCell ⟨b, i, none⟩ u) b t (xs.set i u) := by
  have := heap_setCell_same w b i _ t u h
  unfold Ar
  rw [this]
  simp
theorem Ar.drew {w : World} {b t : Nat} {xs : List Value} (h : Ar w b t xs) : Ar w.drew b t xs := h
theorem Ar.has {w : World} {b t : Nat} {bs : List UInt8} (h : Ar w b t (cells bs)) (o n : Nat) (hn : o + n ≤ bs.length) : Has w (some ⟨b, o, none⟩) ((bs.drop o).take n) := by
  intro _
  refine ⟨_, rfl, fun j hj => ?_⟩
  have hj' : j < n := by simp at hj; omega
  rw [WideShapes.add_plain, h.cell (o + j), cells_getElem bs (o + j) (by omega)]
  simp

structure ArrT (t n : Nat) (z : Value) : Prop where
  under : ∃ e, Try.prog.underlying t = some (.array n e)
  info : (Try.prog.info? t).map (fun i => (i.zero, i.size)) = some (some (.agg (List.replicate n z).toArray), n)
theorem ArrT.size {t n : Nat} {z : Value} (h : ArrT t n z) : (Try.prog.info? t).map (·.size) = some n := (zero_of_info h.info).2
theorem arr64 : ArrT 152 64 (.int .u32 0) := ⟨⟨_, Try.underlying152⟩, by kernel_rfl⟩
theorem arr8 : ArrT 151 8 (.int .u32 0) := ⟨⟨_, Try.underlying151⟩, by kernel_rfl⟩
theorem arr32 : ArrT 78 32 (.int .u8 0) := ⟨⟨_, Try.underlying78⟩, by kernel_rfl⟩
theorem arr128 : ArrT 156 128 (.int .u8 0) := ⟨⟨_, Try.underlying156⟩, by kernel_rfl⟩

theorem alloc_kept (w : World) (o : Obj) : Kept (fun _ => True) w (w.alloc o) := (Kept.refl _ _).alloc o

theorem w_alloc {ops : Array Oper} {rest : List Oper} {a : Act} {w : World} {Q : Exit → Act → World → Prop} {d : Option Nat} {ty : TypeId} {p : String} {af : Array Edge} {t n : Nat} {z : Value} (hT : ArrT t n z)
    (h : ∀ w', Ar w' w.heap.size t (List.replicate n z) → Kept (fun _ => True) w w' → Hid (w'.heap.size = w.heap.size + 1) → wpList Try.prog ops Q rest (a.put d (.pointer (some ⟨w.heap.size, 0, none⟩))) w') :
    wpList Try.prog ops Q (⟨d, .alloc t, ty, p, af, none⟩ :: rest) a w := by
  refine wpList_plain rfl fun K hK => ?_
  have hz := (zero_of_info hT.info).1
  unfold Oper.wp execOp
  simp only [Instr.alloc, Sem.run_bind, Sem.run_pure, Result.andThen_ok, hz, newVar]
  simp [newRow, Value.cells, Oper.upon, Result.andThen]
  refine hK _ _ (h _ (by simpa [Ar] using heap_alloc_last w (.cells (List.replicate n z).toArray t)) (alloc_kept w _) (show _ = _ by simp))

theorem w_box {ops : Array Oper} {rest : List Oper} {a : Act} {w : World} {Q : Exit → Act → World → Prop} {d : Option Nat} {ty : TypeId} {p : String} {af : Array Edge} {t : Nat} {x : Operand} (xs : List Value) (hx : a.eval x = .agg xs.toArray)
    (h : ∀ w', Ar w' w.heap.size t xs → Kept (fun _ => True) w w' → Hid (w'.heap.size = w.heap.size + 1) → wpList Try.prog ops Q rest (a.put d (.pointer (some ⟨w.heap.size, 0, none⟩))) w') :
    wpList Try.prog ops Q (⟨d, .box t x, ty, p, af, none⟩ :: rest) a w := by
  refine wpList_plain rfl fun K hK => ?_
  unfold Oper.wp execOp
  simp only [Instr.box, Sem.run_bind, Sem.run_pure, newVar, hx]
  simp [newRow, Value.cells, Oper.upon, Result.andThen]
  refine hK _ _ (h _ (by simpa [Ar] using heap_alloc_last w (.cells xs.toArray t)) (alloc_kept w _) (show _ = _ by simp))

theorem w_load {ops : Array Oper} {rest : List Oper} {a : Act} {w : World} {Q : Exit → Act → World → Prop} {d : Option Nat} {ty : TypeId} {p : String} {af : Array Edge} {t n : Nat} {z : Value} {x : Operand} (hT : ArrT t n z) {b : Nat} {xs : List Value} (hx : a.eval x = .pointer (some ⟨b, 0, none⟩)) (ha : Ar w b t xs) (hl : xs.length = n)
    (h : wpList Try.prog ops Q rest (a.put d (.agg xs.toArray)) w) :
    wpList Try.prog ops Q (⟨d, .load t x, ty, p, af, none⟩ :: rest) a w := by
  obtain ⟨e, hu⟩ := hT.under
  exact wpList_load_row rfl t x rfl b hx t xs.toArray (0, 0) _ ha hu rfl (by rw [hT.size]; simp [hl]) h

theorem w_store {ops : Array Oper} {rest : List Oper} {a : Act} {w : World} {Q : Exit → Act → World → Prop} {ty : TypeId} {p : String} {af : Array Edge} {t n : Nat} {z : Value} {x y : Operand} (hT : ArrT t n z) {b : Nat} {old xs : List Value} (hx : a.eval x = .pointer (some ⟨b, 0, none⟩)) (hy : a.eval y = .agg xs.toArray) (ha : Ar w b t old) (ho : old.length = n) (hl : xs.length = n) (h1 : ∀ u ∈ xs, u.oneCell' = true)
    (h : ∀ w', Ar w' b t xs → Kept (· ≠ b) w w' → Hid (w'.heap.size = w.heap.size) → wpList Try.prog ops Q rest a w') :
    wpList Try.prog ops Q (⟨none, .store t x y, ty, p, af, none⟩ :: rest) a w := by
  refine wpList_store_row rfl t x y rfl b xs.toArray hx hy t old.toArray ha (by rw [hT.size]; simp [hl]) (by simp [ho, hl]) (by simpa using h1) ?_
  refine h _ (setRow_heap w b _ xs.toArray t _ ha) ((Kept.refl _ _).setRow (by simp) _) (show _ = _ by simp [World.setRow])

theorem results_ar {fn : Func} {p t n : Nat} {z : Value} (hT : ArrT t n z) (h : fn.results = #[.cell p t]) (tmps : Array Value) (w : World) {b : Nat} {xs : List Value} (hp : tmps.getD p undef = .pointer (some ⟨b, 0, none⟩)) (ha : Ar w b t xs) (hl : xs.length = n) : (results fn tmps).run Try.prog w = .ok (.agg xs.toArray) w := by
  obtain ⟨e, hu⟩ := hT.under
  exact results_cell_row h tmps w b t xs.toArray (0, 0) _ hp ha hu rfl (by rw [hT.size]; simp [hl])

theorem results_ar2 {fn : Func} {p t n q : Nat} {z : Value} (hT : ArrT t n z) (h : fn.results = #[.cell p t, .tmp q]) (tmps : Array Value) (w : World) {b : Nat} {xs : List Value} (hp : tmps.getD p undef = .pointer (some ⟨b, 0, none⟩)) (ha : Ar w b t xs) (hl : xs.length = n) : (results fn tmps).run Try.prog w = .ok (.tuple #[.agg xs.toArray, tmps.getD q undef]) w := by
  obtain ⟨e, hu⟩ := hT.under
  have hp' : tmps[p]?.getD undef = .pointer (some ⟨b, 0, none⟩) := by simpa using hp
  simp [results, h, hp', asAddr, run_loadVar_row w b t t xs.toArray (0, 0) _ ha hu rfl (by rw [hT.size]; simp [hl])]

end Go.Proofs.Ytmcaoimgmgjjiaa
