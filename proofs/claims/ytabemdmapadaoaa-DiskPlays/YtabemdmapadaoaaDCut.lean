/-
  Slices of bytes that are cut short, and texts behind texts.
-/
import Derived.Test.YtabemdmapadaoaaD4
import Derived.Deep.CutRange
namespace Go.Proofs.Ytabemdmapadaoaa
open Go.RowKit

/-- b[:k] of any slice of bytes. -/
theorem has_take {w : World} {ao : Option Addr} {bs : List UInt8} (h : Has w ao bs) (k : Nat) : Has w ao (bs.take k) := by
  intro h0
  have hl : 0 < bs.length := by simp at h0; omega
  obtain ⟨ad, rfl, hc⟩ := h hl
  refine ⟨ad, rfl, fun j hj => ?_⟩
  rw [hc j (by simp at hj; omega), List.getElem_take]
theorem slice_take (ao : Option Addr) (n cap k : Nat) (hk : k ≤ cap) (hn : ao = none → cap = 0) (w0 : World) :
    (Instr.slice 27 (.slice ao n cap) none (some (.int .i64 (k : Int))) none).run Try.prog w0 = .ok (.slice ao k cap) w0 := by
  rw [run_slice_h (P := Try.prog) w0 27 ao n cap Try.underlying27 .i64 k (by omega) (by omega), size_u8]
  cases ao with
  | none => have := hn rfl; simp [Result.andThen, sliced]
  | some ad => simp [Result.andThen, sliced, Addr.add]

/-- A text behind a text. -/
theorem text_cat (a b : List UInt8) : (⟨a.toArray⟩ : ByteArray) ++ ⟨b.toArray⟩ = ⟨(a ++ b).toArray⟩ := by
  apply ByteArray.ext
  simp

/-- What 'if len(b) > m { b = b[:m] }' leaves. -/
theorem cut_to {w : World} {ao : Option Addr} {cap : Nat} {bs : List UInt8} (m : Nat) (hh : Has w ao bs) (hn : ao = none → cap = 0) (hcap : bs.length ≤ cap) :
    ∃ B : List UInt8, B.length ≤ m ∧ B = bs.take m ∧ Has w ao B ∧ B.length ≤ cap ∧ (((m : Int) < (bs.length : Int) ∧ ∀ w0, (Instr.slice 27 (.slice ao bs.length cap) none (some (.int .i64 (m : Int))) none).run Try.prog w0 = .ok (.slice ao B.length cap) w0) ∨ (¬ (m : Int) < (bs.length : Int) ∧ B = bs)) := by
  by_cases h : (m : Int) < (bs.length : Int)
  · have e : (bs.take m).length = m := by simp; omega
    exact ⟨bs.take m, by omega, rfl, has_take hh m, by omega, .inl ⟨h, fun w0 => by rw [e]; exact slice_take ao bs.length cap m (by omega) hn w0⟩⟩
  · exact ⟨bs, by omega, by rw [List.take_of_length_le (by omega)], hh, hcap, .inr ⟨h, rfl⟩⟩

theorem left_two (A B : List UInt8) (keep : Int) : left (A ++ B).length A.length keep = A.length + min keep.toNat B.length ∧ (A ++ B).take (A.length + min keep.toNat B.length) = A ++ B.take (min keep.toNat B.length) := by
  constructor
  · unfold left; simp
  · rw [List.take_append, List.take_of_length_le (by omega), Nat.add_sub_cancel_left]

end Go.Proofs.Ytabemdmapadaoaa
