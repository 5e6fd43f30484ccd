/-
  Ballots, and slices of Asks, that came in.
-/
import Derived.Test.YtpidfhcmkkpjdaaSArgs
import Derived.Test.YtpidfhcmkkpjdaaBPlain
import Derived.Deep.Slices
import Derived.Lib.SmallJoins
namespace Go.Proofs.Ytpidfhcmkkpjdaa
open Go.RowKit Go.Deep Go.Joins Go.WideShapes Go.ChangeShapes Go.ChangeAt

theorem Try.cellsBal : Try.prog.cellsOf 26 = 2 := by kernel_rfl

theorem open_bal {H : Type} {enc : TypeId × Value → H} {W : World} {base : Nat} {v : Value} {d : DataW H} {p : List MemPlace} (hv : Value.okWide Try.prog W .any base 26 v) (h : DataW.Trod enc Try.prog W 0 (fun _ => true) true 26 v d p) :
    ∃ r n, v = .agg #[.int .i64 r, .int .i64 n] ∧ p = [] ∧ d = .agg [.lit (.int .i64 r), .lit (.int .i64 n)] ∧ (Lit.int .i64 r).wf = true ∧ (Lit.int .i64 n).wf = true := by
  obtain ⟨c0, c1, y0, y1, m, rfl, rfl, rfl, hy0, hy1⟩ := open_agg2 Try.underlying26 (by kernel_rfl) Try.cellsBal hv h
  obtain ⟨a, e0, rfl, wa⟩ := DataW.trod_int Try.underlying3 hy0
  obtain ⟨b, e1, rfl, wb⟩ := DataW.trod_int Try.underlying3 hy1
  simp at e0 e1
  subst e0 e1
  exact ⟨a, b, rfl, rfl, rfl, wa, wb⟩
theorem shut_bal {H : Type} {enc : TypeId × Value → H} {w : World} {base : Nat} {spare : Nat → Bool} {held : Bool} {r n : Int} (hr : (Lit.int .i64 r).wf = true) (hn : (Lit.int .i64 n).wf = true) :
    DataW.Trod enc Try.prog w base spare held 26 (.agg #[.int .i64 r, .int .i64 n]) (.agg [.lit (.int .i64 r), .lit (.int .i64 n)]) [] :=
  shut_agg2 (y0 := (.lit (.int .i64 r), [])) (y1 := (.lit (.int .i64 n), [])) Try.underlying26 (by kernel_rfl) Try.cellsBal ⟨1, by simp [DataW.trod, Try.underlying3, hr]⟩ ⟨1, by simp [DataW.trod, Try.underlying3, hn]⟩

end Go.Proofs.Ytpidfhcmkkpjdaa
