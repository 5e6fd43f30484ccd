/-
  Two lists of texts held against one another (the book's Texts), and the law's few.
-/
import Derived.Test.YtmiccehdljammaaWStr
namespace Go.Proofs.Ytmiccehdljammaa
open Go.RowKit

theorem tcut (bs : List UInt8) (k : Nat) (hk : k ≤ bs.length) (w0 : World) : (Instr.slice 9 (.string ⟨bs.toArray⟩) none (some (.int .i64 (k : Int))) none).run Try.prog w0 = .ok (.string ⟨(bs.take k).toArray⟩) w0 := by
  have hs : ((⟨bs.toArray⟩ : ByteArray).size : Int) = (bs.length : Int) := by simp [ByteArray.size]
  rw [run_slice_string_to_if (P := Try.prog) w0 9 ⟨bs.toArray⟩ .i64 k Try.underlying9, if_pos ⟨by omega, by omega⟩]
  congr 2
  apply ByteArray.ext
  simp

end Go.Proofs.Ytmiccehdljammaa
