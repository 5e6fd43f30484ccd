/-
  The document's Next.
-/
import Derived.Test.YtbooeabmpdpgpaaZ2
import Derived.Test.YtbooeabmpdpgpaaXWr1
import Derived.Test.YtbooeabmpdpgpaaRSha
namespace Go.Proofs.Ytbooeabmpdpgpaa
open Go.RowKit

set_option maxRecDepth 100000 in
set_option maxHeartbeats 1000000 in
theorem rnext_any {w : World} (h t : List UInt8) (hl : h.length = 32) (ht : t.length ≤ 100000) :
    Calls Try.prog 56 #[.agg (cells h).toArray, .string ⟨t.toArray⟩] w fun e w' => e = .returned (.agg (cells (nxt h t)).toArray) ∧ Kept (fun _ => True) w w' := by
  have ln : (cells (nxt h t)).length = 32 := by rw [cells_length, nxt_len]
  have on := cells_one (nxt h t)
  have hsl := slice_whole w.heap.size
  obtain ⟨xs, hxs⟩ : ∃ xs, xs = cells (nxt h t) := ⟨_, rfl⟩
  rw [← hxs] at ln on ⊢
  obtain ⟨s, hs⟩ : ∃ s : ByteArray, s = ⟨t.toArray⟩ := ⟨_, rfl⟩
  have hsz : s.size = t.length := by rw [hs]; simp [ByteArray.size]
  have hsd : s.data.toList = t := by rw [hs]
  have SH : ∀ (w0 : World) (ao : Option Addr) (cap : Nat), w0.ownsRow 0 5 1 (.slice ao (32 + s.size) cap) (32 + s.size) (cells h ++ cells s.data.toList) → Calls Try.prog 82 #[.slice ao (32 + s.size) cap] w0 fun e w' => e = .returned (.agg xs.toArray) ∧ Kept (fun _ => True) w0 w' := fun w0 ao cap h1 => by
    have hlen : (h ++ t).length = 32 + s.size := by rw [List.length_append, hl, hsz]
    have h2 : w0.ownsRow 0 5 1 (.slice ao (h ++ t).length cap) (h ++ t).length (cells (h ++ t)) := by
      rw [hlen, cells_append, ← hsd]
      exact h1
    obtain ⟨_, _, e0, hn, hh⟩ := own_sl h2
    injection e0 with e1 e2 e3
    subst e1 e3
    rw [hxs, ← hlen]
    exact rsha_any hh hn (by rw [hlen, hsz]; omega)
  have hb : s.size ≤ 100000 := by omega
  rw [← hs]
  clear hxs hs hsz hsd ht
  go_enter Try.func56, Try.ntmps56
  go_wp2_with (first
    | ((with_reducible refine w_box (d := some 2) (cells h) ?hx ?hn); (case hx => rfl); intro w1 a2 k1 s1)
    | ((with_reducible refine w_alloc (d := some 4) arr32 ?_); intro w2 a4 k2 s2)
    | (at_builtin; refine wpList_append_has rfl (.tmp 5) (.tmp 6) rfl w2.heap.size (.slice (some ⟨w2.heap.size, 0, none⟩) 0 0) 0 [] rfl (own_new w2 _ (Nat.le_refl _)) (by simp) (some ⟨w.heap.size, 0, none⟩) 32 32 rfl h hl (by simp) (((a2.kept k2 trivial).full).kept ((Kept.refl (fun _ => True) w2).alloc _) (fun _ _ => trivial)) (by omega) ?_; intro p1 c1 w3 ho1 hg1 hl1; simp only [Nat.zero_add, List.nil_append] at ho1 hl1)
    | (at_builtin; refine wpList_append_str rfl (.tmp 7) (.tmp 8) rfl (.slice p1 32 c1) 32 (cells h) rfl (World.ownsRow.mono ho1 (Nat.zero_le _)) s rfl (by omega) ?_; intro p2 c2 w4 ho2 hg2 hat)
    | (go_at_call 82; (with_reducible refine Calls.mono (SH _ p2 c2 ho2) ?_); rintro e w5 ⟨rfl, k5⟩; have k3 : Kept (fun _ => True) w2 w3 := fresh_one hg1; have k4 : Kept (fun _ => True) w2 w4 := k3.grown hg2 (fun i hi e => by have := (World.ownsRow.lt ho1 i e).1; omega))
    | ((with_reducible apply w_store (x := .tmp 4) (b := w1.heap.size) (xs := xs) (old := List.replicate 32 (.int .u8 0)) arr32); (case hx => rfl); (case hy => rfl); (case ha => exact (a4.kept k4 trivial).kept k5 trivial); (case ho => simp); (case hl => exact ln); (case h1 => exact on); intro w6 a6 k6 s6))
  have q1 := s1.out
  have q2 := s2.out
  refine bodyPost_ret (results_ar (p := 4) arr32 rfl _ _ rfl a6 ln) rfl ⟨rfl, ?_⟩
  exact (((k1.trans k2).trans k4).trans k5).then k6 (fun i hi _ => by omega)

end Go.Proofs.Ytbooeabmpdpgpaa
