/-
  The keys of a map in order.
-/
import Derived.Test.YtkinpgkckbocpaaKLay
import Derived.Test.YtkinpgkckbocpaaKMap
import Derived.Test.YtkinpgkckbocpaaQNs
import Derived.Test.YtkinpgkckbocpaaQRise
namespace Go.Proofs.Ytkinpgkckbocpaa
open Go.RowKit Go.Maps Go.Sort Go.Shelf Go.Proofs

theorem sortsK (m : Nat) : AnyZ.SortsIn Try.prog sortedQ_ren Fence.wide m :=
  ⟨fun blk off cap ss W hH hblk hsz => callsIn_wide.2 (AnyM.slices_Sort_string sortQ blk off cap ss W hH hblk hsz),
   fun p cap W => callsIn_wide.2 (AnyM.slices_Sort_string_none sortQ p cap W)⟩
theorem row_base {w : World} {b b' e sz n : Nat} {v : Value} {xs : List Value} (h : w.ownsRow b e sz v n xs) (hb : b' ≤ b) : w.ownsRow b' e sz v n xs := by
  refine ⟨h.1, ?_⟩
  rcases h.2 with h0 | ⟨g, cap, cur, rfl, hg, rest⟩
  · exact .inl h0
  · exact .inr ⟨g, cap, cur, rfl, by omega, rest⟩
theorem srow_enc (us : List (List UInt8)) : us.map encStr = srow us := rfl

set_option maxHeartbeats 1000000 in
/-- slices.Sorted of maps.Keys, whatever the map holds. -/
theorem sorted_keys {α : Type} {C : Code α} {ρ : Ren} (L : SlLaysZ.n7 Try.prog ρ) (h26 : ρ.t 26 = 9) (hE : ∀ args w, (callFunc (ρ.f 10) args).run Try.prog w = .ok (.enter (ρ.f 10) args) w) {w : World} {mb : Option Nat} {n : Nat} {f : List UInt8 → Option α} (h : Mo C w mb n f) (hn : n ≤ 1000000) :
    Calls Try.prog 35 #[.func (.func (ρ.f 10)) #[] #[.pointer (some ⟨w.heap.size, 0, none⟩)]] (w.alloc (.cells #[.map mb] (ρ.t 23))) fun e w' => ∃ v us, e = .returned v ∧ Rises us ∧ (∀ x, x ∈ us ↔ f x ≠ none) ∧ us.length ≤ n ∧ Txs w' w.heap.size v us ∧ Kept (fun _ => True) w w' := by
  obtain ⟨S, N, hseq, hN, hS⟩ : ∃ (S : List (List UInt8) → Prop) (N : Nat), SeqGives Fence.wide 2 Try.prog (ρ.f 10) #[.pointer (some ⟨w.heap.size, 0, none⟩)] encStr S N (w.alloc (.cells #[.map mb] (ρ.t 23))) ∧ N ≤ n ∧ ∀ ss, S ss → ss.Nodup ∧ ss.length ≤ n ∧ ∀ x, x ∈ ss ↔ f x ≠ none := by
    rcases h with ⟨rfl, h⟩ | ⟨b, rfl, h⟩
    · refine ⟨_, 0, AnyZ.keys_gives_nil (ρ := ρ) { L with } Fence.wide _ trivial rfl w.heap.size _ (by simp) (by simp), Nat.zero_le _, ?_⟩
      rintro ss rfl
      exact ⟨by simp, Nat.zero_le _, fun x => by simp [h x]⟩
    · obtain ⟨D, ho, hh⟩ := h
      have hbl := ho.lt
      obtain ⟨k1, k2, k3⟩ := keys_of ho hh
      have hsz := ho.size_le
      refine ⟨fun ss => ss.Perm (strKeys D), Maps.size D, AnyZ.keys_gives (ρ := ρ) { L with } Fence.wide _ trivial rfl (by omega) w.heap.size b n D _ (by simp) (by simp) (by
        rw [h26]
        obtain ⟨es, clock, hb, Ft, hs, hD⟩ := ho
        exact ⟨es, clock, (Below.heap_alloc _ _ b hbl).trans hb, Ft, hs, hD⟩), hsz, ?_⟩
      intro ss hp
      exact ⟨hp.nodup_iff.2 k1, by rw [hp.length_eq, k2]; exact hsz, fun x => by rw [hp.mem_iff, k3 x]⟩
  have c := callsIn_wide.1 (AnyZ.sorted_in sortedQ Fence.wide 5 trivial trivial trivial trivial rfl (by omega) (sortsK _) (enters_of Try.func40 (by kernel_rfl) rfl) (ρ.f 10) #[.pointer (some ⟨w.heap.size, 0, none⟩)] trivial hE S N (by unfold maxLen; omega) (by omega) _ hseq)
  refine Calls.mono c ?_
  rintro e w' ⟨v, ss, rfl, hs, hrow, -, hb⟩
  obtain ⟨s1, s2, s3⟩ := hS ss hs
  obtain ⟨r1, r2⟩ := rises_sort ss s1
  refine ⟨v, ss.mergeSort (fun x y => decide (x ≤ y)), rfl, r1, fun x => by rw [r2 x, s3 x], by rw [List.length_mergeSort]; exact s2, ?_, ((Kept.refl _ _).alloc _).trans (Kept.ofBelow _ hb)⟩
  unfold Txs
  rw [List.length_mergeSort, ← srow_enc]
  exact row_base hrow (by simp)

set_option maxHeartbeats 400000 in
theorem inOrder_hold {α : Type} {C : Code α} {w : World} {mb : Option Nat} {n : Nat} {f : List UInt8 → Option α} (h : Mo C w mb n f) (hn : n ≤ 1000000) :
    Calls Try.prog 27 #[.map mb] w fun e w' => ∃ v us, e = .returned v ∧ Rises us ∧ (∀ x, x ∈ us ↔ f x ≠ none) ∧ us.length ≤ n ∧ Txs w' w.heap.size v us ∧ Kept (fun _ => True) w w' := by
  have ck : Calls Try.prog 36 #[.map mb] w fun e w' => e = .returned (.func (.func 41) #[] #[.pointer (some ⟨w.heap.size, 0, none⟩)]) ∧ w' = w.alloc (.cells #[.map mb] 57) := callsIn_wide.1 (AnyZ.keys_in keysH Fence.wide 5 trivial rfl mb w)
  have cs : Calls Try.prog 35 #[.func (.func 41) #[] #[.pointer (some ⟨w.heap.size, 0, none⟩)]] (w.alloc (.cells #[.map mb] 57)) _ := sorted_keys keysH rfl (enters_of Try.func41 (by kernel_rfl) rfl) h hn
  clear h
  go_enter Try.func27, Try.ntmps27
  go_wp2_with fail
  refine Calls.mono ck ?_
  rintro e _ ⟨rfl, rfl⟩
  clear ck
  go_wp2_with fail
  refine Calls.mono cs ?_
  rintro e w2 ⟨v, us, rfl, h1, h2, h3, h4, h5⟩
  clear cs
  go_wp2_with fail
  go_ret
  exact ⟨_, us, rfl, h1, h2, h3, h4, h5⟩

set_option maxHeartbeats 400000 in
theorem inOrder_unit {α : Type} {C : Code α} {w : World} {mb : Option Nat} {n : Nat} {f : List UInt8 → Option α} (h : Mo C w mb n f) (hn : n ≤ 1000000) :
    Calls Try.prog 28 #[.map mb] w fun e w' => ∃ v us, e = .returned v ∧ Rises us ∧ (∀ x, x ∈ us ↔ f x ≠ none) ∧ us.length ≤ n ∧ Txs w' w.heap.size v us ∧ Kept (fun _ => True) w w' := by
  have ck : Calls Try.prog 37 #[.map mb] w fun e w' => e = .returned (.func (.func 42) #[] #[.pointer (some ⟨w.heap.size, 0, none⟩)]) ∧ w' = w.alloc (.cells #[.map mb] 63) := callsIn_wide.1 (AnyZ.keys_in keysQ Fence.wide 5 trivial rfl mb w)
  have cs : Calls Try.prog 35 #[.func (.func 42) #[] #[.pointer (some ⟨w.heap.size, 0, none⟩)]] (w.alloc (.cells #[.map mb] 63)) _ := sorted_keys keysQ rfl (enters_of Try.func42 (by kernel_rfl) rfl) h hn
  clear h
  go_enter Try.func28, Try.ntmps28
  go_wp2_with fail
  refine Calls.mono ck ?_
  rintro e _ ⟨rfl, rfl⟩
  clear ck
  go_wp2_with fail
  refine Calls.mono cs ?_
  rintro e w2 ⟨v, us, rfl, h1, h2, h3, h4, h5⟩
  clear cs
  go_wp2_with fail
  go_ret
  exact ⟨_, us, rfl, h1, h2, h3, h4, h5⟩

set_option maxHeartbeats 400000 in
theorem inOrder_map {α : Type} {C : Code α} {w : World} {mb : Option Nat} {n : Nat} {f : List UInt8 → Option α} (h : Mo C w mb n f) (hn : n ≤ 1000000) :
    Calls Try.prog 29 #[.map mb] w fun e w' => ∃ v us, e = .returned v ∧ Rises us ∧ (∀ x, x ∈ us ↔ f x ≠ none) ∧ us.length ≤ n ∧ Txs w' w.heap.size v us ∧ Kept (fun _ => True) w w' := by
  have ck : Calls Try.prog 38 #[.map mb] w fun e w' => e = .returned (.func (.func 43) #[] #[.pointer (some ⟨w.heap.size, 0, none⟩)]) ∧ w' = w.alloc (.cells #[.map mb] 52) := callsIn_wide.1 (AnyZ.keys_in keysM Fence.wide 5 trivial rfl mb w)
  have cs : Calls Try.prog 35 #[.func (.func 43) #[] #[.pointer (some ⟨w.heap.size, 0, none⟩)]] (w.alloc (.cells #[.map mb] 52)) _ := sorted_keys keysM rfl (enters_of Try.func43 (by kernel_rfl) rfl) h hn
  clear h
  go_enter Try.func29, Try.ntmps29
  go_wp2_with fail
  refine Calls.mono ck ?_
  rintro e _ ⟨rfl, rfl⟩
  clear ck
  go_wp2_with fail
  refine Calls.mono cs ?_
  rintro e w2 ⟨v, us, rfl, h1, h2, h3, h4, h5⟩
  clear cs
  go_wp2_with fail
  go_ret
  exact ⟨_, us, rfl, h1, h2, h3, h4, h5⟩

end Go.Proofs.Ytkinpgkckbocpaa
