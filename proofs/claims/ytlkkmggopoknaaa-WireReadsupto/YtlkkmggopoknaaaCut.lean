/-
  A slice of bytes that is cut, and turned into a text.
-/
import Derived.Test.YtlkkmggopoknaaaBase
import Derived.Laws.IdiomStrings
import Derived.Laws.BytesString
namespace Go.Proofs.Ytlkkmggopoknaaa
open Go.RowKit

theorem Try.elemBytes : Try.prog.elem 26 = 5 := by kernel_rfl
theorem size_u8 (w0 : World) : (sizeOf (Try.prog.elem 26)).run Try.prog w0 = .ok 1 w0 := by
  obtain ⟨i, hi, hz0, hz1, hz2⟩ := info_parts Try.infoU8
  rw [Try.elemBytes]
  simp [sizeOf, typeInfo, hi, hz1]

/-- The cells of a row from p on. -/
theorem row_cells {w : World} {R : Nat} {cur : Array Value} {t : TypeId} {fr : Nat × Nat} {bs : List UInt8} (hc : w.heap[R]? = some (.cells cur t fr)) (ht : cur.toList.take bs.length = cells bs) (k : Nat) (hk : k < bs.length) : w.cell? ⟨R, k, none⟩ = some (.int .u8 (bs[k]).toNat) := by
  rw [cell_of_row w R k cur _ _ hc]
  have := cells_getElem bs k hk
  rw [← ht, List.getElem?_take, if_pos hk] at this
  simpa using this

/-- string(b): b's cells are the bytes l. -/
theorem conv_run (w : World) (a : Addr) (cap : Nat) (l : List UInt8) (hc : ∀ j (hj : j < l.length), w.cell? (a.add j) = some (.int .u8 (l[j].toNat : Int))) :
    (convert 26 9 (.slice (some a) l.length cap)).run Try.prog w = .ok (.string ⟨l.toArray⟩) w :=
  run_convert_bytes_back (P := Try.prog) w 26 9 5 a cap l Try.underlying26 Try.underlying5 Try.underlying9 hc

theorem cut_any {w : World} {R : Nat} {cur : Array Value} {t : TypeId} {fr : Nat × Nat} {bs : List UInt8} {cap : Nat} (hc : w.heap[R]? = some (.cells cur t fr)) (ht : cur.toList.take bs.length = cells bs) (hcap : bs.length ≤ cap) (p n : Nat) (hpn : p + n ≤ bs.length) :
    ∃ SV : Value, (∀ w0, (Instr.slice 26 (.slice (some ⟨R, 0, none⟩) bs.length cap) (some (.int .i64 (p : Int))) (some (.int .i64 ((p : Int) + (n : Int)))) none).run Try.prog w0 = .ok SV w0) ∧
      ∀ k, (convert 26 9 SV).run Try.prog (w.drewN k) = .ok (.string ⟨((bs.drop p).take n).toArray⟩) (w.drewN k) := by
  refine ⟨.slice (some (if cap = p then ⟨R, 0, none⟩ else ⟨R, p, none⟩)) n (cap - p), fun w0 => ?_, fun k => ?_⟩
  · rw [run_slice_lh (P := Try.prog) w0 26 (some ⟨R, 0, none⟩) bs.length cap Try.underlying26 .i64 .i64 p (p + n) (by omega) (by omega) (by omega)]
    have e1 : ((p : Int) + (n : Int)).toNat = p + n := by omega
    rw [size_u8]
    simp only [Result.andThen, sliced, e1, Int.toNat_natCast, Nat.add_sub_cancel_left]
    by_cases hp : cap = p
    · simp [hp]
    · simp [hp, Addr.add]; omega
  · have hl : ((bs.drop p).take n).length = n := by simp; omega
    have := conv_run (w.drewN k) (if cap = p then ⟨R, 0, none⟩ else ⟨R, p, none⟩) (cap - p) ((bs.drop p).take n) (fun j hj => by
      rw [hl] at hj
      rw [if_neg (by omega)]
      have e : (⟨R, p, none⟩ : Addr).add j = ⟨R, p + j, none⟩ := by simp [Addr.add]
      rw [e, List.getElem_take, List.getElem_drop]
      exact row_cells (w := w) hc ht (p + j) (by omega))
    rw [hl] at this
    exact this

/-- What a slice value of bytes reads as. -/
def Has (w : World) (ao : Option Addr) (bs : List UInt8) : Prop := 0 < bs.length → ∃ ad, ao = some ad ∧ ∀ j (hj : j < bs.length), w.cell? (ad.add j) = some (.int .u8 (bs[j].toNat : Int))
theorem Has.src {w : World} {ad : Addr} {bs : List UInt8} (h : ∀ j (hj : j < bs.length), w.cell? (ad.add j) = some (.int .u8 (bs[j].toNat : Int))) : ∀ j v, (cells bs)[j]? = some v → w.cell? (ad.add j) = some v := by
  intro j v hv
  have hj : j < bs.length := by
    have := (List.getElem?_eq_some_iff.1 hv).1
    simpa [cells] using this
  rw [h j hj]
  rw [cells_getElem bs j hj] at hv
  exact hv
theorem Try.infoSize : (Try.prog.info? 5).map (·.size) = some 1 := by
  obtain ⟨i, hi, hz0, hz1, hz2⟩ := info_parts Try.infoU8
  rw [hi]; simp [hz1]

theorem Kept.setRow {p : Nat → Prop} {a w : World} (h : Kept p a w) {g : Nat} (hp : ¬ p g) (cs : Array Value) : Kept p a (w.setRow g cs) :=
  h.trans ⟨rfl, rfl, rfl, by simp [World.setRow], fun k _ hk => setRow_other w g k cs (fun e => hp (e ▸ hk))⟩

/-- copy over a whole row that was made. -/
theorem copy_fill (W : World) (g : Nat) (cur : Array Value) (bs : List UInt8) (ao : Option Addr) (cap : Nat) (hg : W.heap[g]? = some (.cells cur 5 (0, 0))) (hc : cur.size = bs.length) (hs : Has W ao bs) :
    ∃ W', (Builtin.copy_ #[26, 26] 3 #[.slice (some ⟨g, 0, none⟩) bs.length bs.length, .slice ao bs.length cap]).run Try.prog W = .ok (.int .i64 bs.length) W' ∧
      W'.heap[g]? = some (.cells (cells bs).toArray 5 (0, 0)) ∧ Kept (· ≠ g) W W' ∧ W'.heap.size = W.heap.size := by
  by_cases h0 : 0 < bs.length
  · obtain ⟨ad, rfl, hcell⟩ := hs h0
    have hrun := run_copy_row (P := Try.prog) W 26 26 3 5 g 0 bs.length bs.length ad bs.length cap cur 5 (cells bs) Try.underlying26 Try.infoSize hg (by simp [cells_length]) (Has.src hcell) (by rw [cells_length]; omega) (cells_one bs)
    refine ⟨_, ?_, setRow_heap W g _ (cells bs).toArray 5 _ hg, (Kept.refl _ _).setRow (by simp) _, by simp [World.setRow]⟩
    rw [hrun]
    have e : (List.take 0 cur.toList ++ cells bs ++ List.drop (0 + (cells bs).length) cur.toList) = cells bs := by
      rw [cells_length, Nat.zero_add, List.drop_eq_nil_of_le (by simp [hc])]
      simp
    rw [e, cells_length]
    rfl
  · have hn : bs = [] := List.eq_nil_of_length_eq_zero (by omega)
    subst hn
    refine ⟨W, run_copy_none (P := Try.prog) W 26 26 3 5 _ _ _ _ _ _ Try.underlying26 Try.infoSize (by simp), ?_, Kept.refl _ _, rfl⟩
    have : cur = #[] := Array.eq_empty_of_size_eq_zero (by simpa using hc)
    rw [hg, this]; rfl

theorem Has.kept {p : Nat → Prop} {w w' : World} {ao : Option Addr} {bs : List UInt8} (h : Has w ao bs) (hk : Kept p w w') (hp : ∀ ad, ao = some ad → p ad.block) : Has w' ao bs := by
  intro h0
  obtain ⟨ad, rfl, hc⟩ := h h0
  refine ⟨ad, rfl, fun j hj => ?_⟩
  have hb : (ad.add j).block = ad.block := by unfold Addr.add; split <;> rfl
  have hlt : ad.block < w.heap.size := by
    have := World.block_lt_of_cell? w _ (hc j hj)
    rwa [hb] at this
  rw [World.cell?_of_block (w := w) (by rw [hb]; exact hk.block ad.block hlt (hp ad rfl))]
  exact hc j hj

end Go.Proofs.Ytlkkmggopoknaaa
