/-
  What the bound on the bulk of the arguments gives.
-/
import Derived.Test.YtlkkmggopoknaaaRef3
import Derived.Test.YtlkkmggopoknaaaArgs
namespace Go.Proofs.Ytlkkmggopoknaaa
open Go.RowKit

theorem bulk_part {H : Type} (p : PartV) : p.s.size + 5 ≤ Rows.uptoBulk (p.dat H) := by
  have e : p.s.data.toList.length = p.s.size := rfl
  simp only [PartV.dat, Rows.uptoBulk, Rows.uptoBulkAll, e]
  omega
theorem bulk_parts {H : Type} (ps : List PartV) : weigh ps ≤ 2 * Rows.uptoBulkAll (ps.map (PartV.dat H)) := by
  induction ps with
  | nil => simp [weigh]
  | cons p ps ih =>
    have := bulk_part (H := H) p
    simp only [weigh, List.map_cons, List.sum_cons, Rows.uptoBulkAll] at *
    omega
theorem bulk_slice {H : Type} {d : DataW H} {ps : List PartV} {n : Nat} (hn : ps.length = n) (h : (d = .nil ∧ n = 0) ∨ ∃ rest, d = .slice (ps.map (PartV.dat H)) rest) : weigh ps ≤ 2 * Rows.uptoBulk d := by
  rcases h with ⟨_, h0⟩ | ⟨rest, rfl⟩
  · have : ps = [] := List.eq_nil_of_length_eq_zero (by omega)
    subst this
    simp [weigh]
  · have := bulk_parts (H := H) ps
    simp only [Rows.uptoBulk]
    omega
theorem bulk_mem {H : Type} {l : List (DataW H)} (hk : Rows.uptoSmall H l = true) : Rows.uptoBulkAll l ≤ 1048576 := of_decide_eq_true hk
theorem bulk_bytes {H : Type} {d : DataW H} {bs : List UInt8} {n : Nat} (hn : bs.length = n) (h : (d = .nil ∧ n = 0) ∨ ∃ elems spare, d = .slice elems spare ∧ elems = bs.map (fun b => (.lit (.int .u8 b.toNat) : DataW H))) : bs.length ≤ Rows.uptoBulk d := by
  rcases h with ⟨_, h0⟩ | ⟨elems, spare, rfl, rfl⟩
  · omega
  · have : ∀ l : List UInt8, l.length ≤ Rows.uptoBulkAll (l.map (fun b => (.lit (.int .u8 b.toNat) : DataW H))) := by
      intro l
      induction l with
      | nil => simp
      | cons b l ih => simp only [List.map_cons, List.length_cons, Rows.uptoBulkAll, Rows.uptoBulk]; omega
    have := this bs
    simp only [Rows.uptoBulk]
    omega

end Go.Proofs.Ytlkkmggopoknaaa
