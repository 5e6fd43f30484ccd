/-
  Slices of bytes as values: turned into texts, and kept while other blocks are written.
-/
import Derived.Test.YtlkkmggopoknaaaRef1
import Derived.Test.YtlkkmggopoknaaaRd6
namespace Go.Proofs.Ytlkkmggopoknaaa
open Go.RowKit

/-- string(b) of a slice of bytes. -/
theorem conv_own {w : World} {b : Nat} {v : Value} {bs : List UInt8} (h : w.ownsRow b 5 1 v bs.length (cells bs)) :
    (convert 26 9 v).run Try.prog w = .ok (.string ⟨bs.toArray⟩) w := by
  rcases h.2 with ⟨rfl, h0⟩ | ⟨g, cap, cur, rfl, _, hh, _, _, _, ht⟩
  · have : bs = [] := List.eq_nil_of_length_eq_zero h0
    subst this
    rw [run_convert_bytes_string w 26 9 5 none 0 0 Try.underlying26 Try.underlying5 Try.underlying9]
    simp [Conv.bytesToString]
    rfl
  · refine conv_run w _ cap bs (fun j hj => ?_)
    have e : (⟨g, 0, none⟩ : Addr).add j = ⟨g, j, none⟩ := by simp [Addr.add]; omega
    rw [e]
    exact row_cells hh (by simpa using ht) j hj

theorem own_kept {p : Nat → Prop} {w w' : World} {b n : Nat} {v : Value} {xs : List Value} (h : w.ownsRow b 5 1 v n xs) (hk : Kept p w w') (hp : ∀ k, v.ownBlock = some k → p k) : w'.ownsRow b 5 1 v n xs := by
  refine ⟨h.1, ?_⟩
  rcases h.2 with h0 | ⟨g, cap, cur, rfl, hb, hh, rest⟩
  · exact .inl h0
  · exact .inr ⟨g, cap, cur, rfl, hb, (hk.block g (lt_of_block hh) (hp g rfl)).trans hh, rest⟩
/-- string(b) of any slice of bytes. -/
theorem conv_sl {w : World} {v : Value} {bs : List UInt8} (h : Sl w v bs) : (convert 26 9 v).run Try.prog w = .ok (.string ⟨bs.toArray⟩) w := by
  obtain ⟨ao, cap, rfl, hn, hh⟩ := h
  rcases Nat.eq_zero_or_pos bs.length with h0 | h0
  · have : bs = [] := List.eq_nil_of_length_eq_zero h0
    subst this
    cases ao with
    | none =>
      show (convert 26 9 (.slice none 0 cap)).run Try.prog w = _
      rw [run_convert_bytes_string w 26 9 5 none 0 cap Try.underlying26 Try.underlying5 Try.underlying9]
      simp [Conv.bytesToString]
      rfl
    | some ad => exact conv_run w ad cap [] (fun j hj => by simp at hj)
  · obtain ⟨ad, rfl, hc⟩ := hh h0
    exact conv_run w ad cap bs hc
theorem Sl.kept {p : Nat → Prop} {w w' : World} {ao : Option Addr} {n cap : Nat} {bs : List UInt8} (h : Sl w (.slice ao n cap) bs) (hk : Kept p w w') (hp : ∀ k, k < w.heap.size → p k) : Sl w' (.slice ao n cap) bs := by
  obtain ⟨ao', cap', e, hn, hh⟩ := h
  refine ⟨ao', cap', e, hn, fun h0 => ?_⟩
  obtain ⟨ad, rfl, hc⟩ := hh h0
  have hb : ad.block < w.heap.size := by
    have := World.block_lt_of_cell? w _ (hc 0 h0)
    simpa [Addr.add] using this
  exact (Has.kept (fun _ => ⟨ad, rfl, hc⟩ : Has w (some ad) bs) hk (fun x hx => by cases hx; exact hp _ hb)) h0
/-- The cells of such a slice, at a plain address. -/
theorem Sl.plain {w : World} {ao : Option Addr} {n cap : Nat} {bs : List UInt8} (h : Sl w (.slice ao n cap) bs) (h0 : 0 < bs.length) : ∃ b off, ao = some ⟨b, off, none⟩ ∧ b < w.heap.size ∧ ∀ j (hj : j < bs.length), w.cell? ⟨b, off + j, none⟩ = some (.int .u8 (bs[j]).toNat) := by
  obtain ⟨ao', cap', e, hn, hh⟩ := h
  cases e
  obtain ⟨⟨b, off, spot⟩, rfl, hc⟩ := hh h0
  have hs : spot = none := by simpa [Addr.add] using World.cell?_spot (hc 0 h0)
  subst hs
  refine ⟨b, off, rfl, ?_, fun j hj => ?_⟩
  · have := World.block_lt_of_cell? w _ (hc 0 h0)
    simpa [Addr.add] using this
  · rw [← WideShapes.add_plain]; exact hc j hj

theorem Rs.drewK {w : World} {B R : Nat} {bs : List UInt8} {cap : Nat} {s : RS} (h : Rs w B R bs cap s) : Rs w.drew B R bs cap s := h.kept (Kept.refl (fun _ => True) w).drew trivial trivial

end Go.Proofs.Ytlkkmggopoknaaa
