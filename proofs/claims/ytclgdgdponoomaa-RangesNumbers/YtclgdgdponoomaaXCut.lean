/-
  A slice of bytes that is cut, and turned into a text.
-/
import Derived.Test.YtclgdgdponoomaaXBase
import Derived.Laws.IdiomStrings
import Derived.Laws.BytesString
namespace Go.Proofs.Ytclgdgdponoomaa
open Go.RowKit

set_option maxRecDepth 100000 in
theorem wcut_any {w : World} {R : Nat} {cur : Array Value} {t : TypeId} {fr : Nat × Nat} {bs : List UInt8} {cap : Nat} (hc : w.heap[R]? = some (.cells cur t fr)) (ht : cur.toList.take bs.length = cells bs) (hcap : bs.length ≤ cap) (p n : Nat) (hpn : p + n ≤ bs.length) :
    ∃ SV : Value, (∀ w0, (Instr.slice 34 (.slice (some ⟨R, 0, none⟩) bs.length cap) (some (.int .i64 (p : Int))) (some (.int .i64 ((p : Int) + (n : Int)))) none).run Try.prog w0 = .ok SV w0) ∧
      ∀ k, (convert 34 9 SV).run Try.prog (w.drewN k) = .ok (.string ⟨((bs.drop p).take n).toArray⟩) (w.drewN k) := by
  refine ⟨.slice (some (if cap = p then ⟨R, 0, none⟩ else ⟨R, p, none⟩)) n (cap - p), fun w0 => ?_, fun k => ?_⟩
  · rw [run_slice_lh (P := Try.prog) w0 34 (some ⟨R, 0, none⟩) bs.length cap Try.underlying34 .i64 .i64 p (p + n) (by omega) (by omega) (by omega)]
    have e1 : ((p : Int) + (n : Int)).toNat = p + n := by omega
    rw [size_u8]
    simp only [Result.andThen, sliced, e1, Int.toNat_natCast, Nat.add_sub_cancel_left]
    by_cases hp : cap = p
    · simp [hp]
    · simp [hp, Addr.add]; omega
  · have hl : ((bs.drop p).take n).length = n := by simp; omega
    have := conv_run (w.drewN k) (if cap = p then ⟨R, 0, none⟩ else ⟨R, p, none⟩) (cap - p) ((bs.drop p).take n) (fun j hj => by
      rw [hl] at hj
      rw [if_neg (by omega)]
      have e : (⟨R, p, none⟩ : Addr).add j = ⟨R, p + j, none⟩ := by simp [Addr.add]
      rw [e, List.getElem_take, List.getElem_drop]
      exact row_cells (w := w) hc ht (p + j) (by omega))
    rw [hl] at this
    exact this

end Go.Proofs.Ytclgdgdponoomaa
