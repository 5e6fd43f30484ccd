/-
  The library's sorted keys of a map, strings.Clone, a set of texts in memory; what Uses answers, plainly.
-/
import Derived.Test.YtpjfmgmhohpjmaaQLay
import Derived.Test.YtpjfmgmhohpjmaaQ9
import Derived.Maps.OwnSet
import Derived.Sort.KeysCollected
namespace Go.Proofs.Ytpjfmgmhohpjmaa
open Go.RowKit Go.Maps Go.Sort Go.Shelf Go.Proofs

theorem sortsQ (m : Nat) : AnyZ.SortsIn Try.prog sortedQ_ren Fence.wide m :=
  ⟨fun blk off cap ss W hH hblk hsz => callsIn_wide.2 (AnyM.slices_Sort_string sortQ blk off cap ss W hH hblk hsz),
   fun p cap W => callsIn_wide.2 (AnyM.slices_Sort_string_none sortQ p cap W)⟩
theorem keys_any (mb : Option Nat) (W : World) : Calls Try.prog 31 #[.map mb] W fun e w' => e = .returned (.func (.func 45) #[] #[.pointer (some ⟨W.heap.size, 0, none⟩)]) ∧ w' = W.alloc (.cells #[.map mb] 59) :=
  callsIn_wide.1 (AnyZ.keys_in keysQ Fence.wide 5 trivial rfl mb W)
set_option maxHeartbeats 1000000 in
theorem sorted_any {H : Type} (b nn : Nat) (D0 : DataW H) (R : Value → Option (DataW H × List MemPlace)) (w : World) (hown : w.ownsMap Try.prog 9 R b nn D0) (hmax : Maps.size D0 ≤ maxLen) (hbytes : Maps.size D0 * 16 ≤ 140737488355328) :
    Calls Try.prog 30 #[.func (.func 45) #[] #[.pointer (some ⟨w.heap.size, 0, none⟩)]] (w.alloc (.cells #[.map (some b)] 59)) fun e w' => ∃ (v : Value) (ss : List (List UInt8)), e = .returned v ∧ ss.Perm (strKeys D0) ∧
      w'.ownsRow (w.alloc (.cells #[.map (some b)] 59)).heap.size 9 1 v ss.length ((ss.mergeSort (fun x y => decide (x ≤ y))).map encStr) ∧ (v = .slice none 0 0 ↔ ss = []) ∧ Below (w.alloc (.cells #[.map (some b)] 59)).heap.size (w.alloc (.cells #[.map (some b)] 59)) w' := by
  have hbl := hown.lt
  have hseq : SeqGives Fence.wide 2 Try.prog 45 #[.pointer (some ⟨w.heap.size, 0, none⟩)] encStr (fun ss => ss.Perm (strKeys D0)) (Maps.size D0) (w.alloc (.cells #[.map (some b)] 59)) :=
    AnyZ.keys_gives (ρ := keysQ_ren) { keysQ with } Fence.wide _ trivial rfl (by omega) w.heap.size b nn D0 _ (by simp) (by simp) (by
      obtain ⟨es, clock, hb, Ft, hs, hD⟩ := hown
      exact ⟨es, clock, (Below.heap_alloc _ _ b hbl).trans hb, Ft, hs, hD⟩)
  exact callsIn_wide.1 (AnyZ.sorted_in sortedQ Fence.wide 5 trivial trivial trivial trivial rfl (by omega) (sortsQ _) (enters_of Try.func44 (by kernel_rfl) rfl) 45 #[.pointer (some ⟨w.heap.size, 0, none⟩)] trivial (enters_of Try.func45 (by kernel_rfl) rfl) _ _ hmax hbytes _ hseq)

set_option maxHeartbeats 400000 in
theorem clone_any {w : World} (s : List UInt8) (hs : s.length ≤ 1000000) : Calls Try.prog 32 #[.string ⟨s.toArray⟩] w fun e w' => e = .returned (.string ⟨s.toArray⟩) ∧ Kept (fun _ => True) w w' := by
  have c : Calls Try.prog 46 #[.string ⟨s.toArray⟩] w fun e w' => e = .returned (.string ⟨s.toArray⟩) ∧ Below w.heap.size w w' := Any.stringslite_Clone cloneQ ⟨s.toArray⟩ w (by simp [ByteArray.size]; omega)
  go_enter Try.func32, Try.ntmps32
  go_wp2_with fail
  refine Calls.mono c ?_
  rintro e w1 ⟨rfl, k1⟩
  go_wp2_with fail
  go_ret
  exact ⟨rfl, Kept.ofBelow _ k1⟩

/-- Block b is a map whose keys are these texts. -/
def Su (w : World) (b n : Nat) (ks : List (List UInt8)) : Prop := ∃ D : DataW Unit, w.ownsMap Try.prog 9 unitElem b n D ∧ ∀ x, Maps.has D (.string x) = true ↔ x ∈ ks
theorem text_key : Maps.Keyed Try.prog 9 := Maps.string_keyed Try.underlying9
theorem text_of {x : List UInt8} (h : x.length ≤ 1000000) : keyOf Try.prog 9 (.string ⟨x.toArray⟩) = some (.string x) := by
  have := WideMaps.keyOf_string_mk (P := Try.prog) (k := 9) Try.underlying9 (s := ⟨x.toArray⟩) (by simp [ByteArray.size, maxLen]; omega)
  simpa using this
theorem Kept.turned {w w' : World} {b : Nat} (h : w.mapTurned w' b) : Kept (· ≠ b) w w' := by
  have g := h.grown
  exact ⟨g.os, g.tape, g.output, g.size, fun k hk hne => g.block k hk (fun e => hne (by cases e; rfl))⟩
theorem turned_size {w w' : World} {b : Nat} (h : w.mapTurned w' b) : w'.heap.size = w.heap.size := by
  obtain ⟨es, clock, es', clock', hb, rfl⟩ := h
  simp [ChangeMaps.setBlock]
theorem Su.lt {w : World} {b n : Nat} {ks : List (List UInt8)} (h : Su w b n ks) : b < w.heap.size := by obtain ⟨D, ho, _⟩ := h; exact ho.lt
theorem Su.kept {p : Nat → Prop} {w w' : World} {b n : Nat} {ks : List (List UInt8)} (h : Su w b n ks) (k : Kept p w w') (hp : p b) : Su w' b n ks := by
  have hlt := h.lt
  obtain ⟨D, ⟨es, clock, hb, r⟩, hh⟩ := h
  exact ⟨D, ⟨es, clock, (k.block b hlt hp).trans hb, r⟩, hh⟩
theorem Su.made (w : World) : Su (w.alloc (.map #[] 0)) w.heap.size 0 [] :=
  ⟨.map [], World.ownsMap_made _ _ _ _, fun x => by simp [Maps.has_eq]⟩
/-- used[x] = struct{}{} -/
theorem Su.store {w : World} {b n : Nat} {ks : List (List UInt8)} (h : Su w b n ks) {x : List UInt8} (hx : x.length ≤ 1000000) (hn : n < 1000000) :
    ∃ w', (Instr.mapUpdate 59 (.map (some b)) (.string ⟨x.toArray⟩) (.agg #[])).run Try.prog w = .ok () w' ∧ Su w' b (n + 1) (x :: ks) ∧ Kept (· ≠ b) w w' ∧ w'.heap.size = w.heap.size := by
  obtain ⟨D, ho, hh⟩ := h
  obtain ⟨w', hr, h1, h2⟩ := ho.store text_key Try.underlying59 (by unfold maxLen; omega) (text_of hx) unitElem_mk
  refine ⟨w', hr, ⟨_, h1, fun y => ?_⟩, Kept.turned h2, turned_size h2⟩
  by_cases hy : y = x
  · subst hy
    have hk : WideAt.IsKeyLit (.string y) := trivial
    exact ⟨fun _ => List.mem_cons_self .., fun _ => Maps.has_true_of_atKey (Maps.atKey_put_same ho.isMap hk _)⟩
  · rw [Maps.has_put_other (fun e => hy (by simpa using e)), hh y]
    simp [hy]
/-- The keys in the datum. -/
theorem Su.keys {w : World} {b n : Nat} {D : DataW Unit} (ho : w.ownsMap Try.prog 9 unitElem b n D) : (strKeys D).Nodup ∧ ∀ x, x ∈ strKeys D ↔ Maps.has D (.string x) = true := by
  obtain ⟨es, hD, hpw, _⟩ := ho.entries text_key
  obtain ⟨es', hD', hko⟩ := ho.keysOf
  obtain rfl : es = es' := by rw [hD] at hD'; simpa using hD'
  subst hD
  have hk : ∀ p ∈ es, ∃ x, p.1 = .string x := fun p hp => by obtain ⟨v, hv⟩ := hko p hp; obtain ⟨x, _, hx, _⟩ := Maps.keyOf_str Try.underlying9 hv; exact ⟨x, hx⟩
  refine ⟨?_, fun x => ?_⟩
  · show (es.map fun p => strOf p.1).Nodup
    refine List.pairwise_map.2 (hpw.imp_of_mem fun {p q} hp' hq' hne e => hne ?_)
    obtain ⟨a, ha⟩ := hk p hp'
    obtain ⟨c, hc⟩ := hk q hq'
    rw [ha, hc] at e ⊢
    exact congrArg _ e
  · rw [Maps.has_eq, List.any_eq_true]
    show x ∈ es.map (fun p => strOf p.1) ↔ _
    rw [List.mem_map]
    constructor
    · rintro ⟨p, hp', rfl⟩
      obtain ⟨a, ha⟩ := hk p hp'
      exact ⟨p, hp', by rw [ha]; simp [Lit.sameKey, strOf]⟩
    · rintro ⟨p, hp', hs⟩
      obtain ⟨a, ha⟩ := hk p hp'
      rw [ha] at hs
      exact ⟨p, hp', by rw [ha]; simpa [Lit.sameKey, strOf] using hs⟩

theorem pairs_weaken {α : Type} {R S : α → α → Prop} (hRS : ∀ a b, R a b → S a b) {l : List α} (h : l.Pairwise R) : l.Pairwise S := by
  induction l with
  | nil => exact List.Pairwise.nil
  | cons a l ih =>
    rw [List.pairwise_cons] at h ⊢
    exact ⟨fun b hb => hRS a b (h.1 b hb), ih h.2⟩
theorem pairs_both {α : Type} {R S T : α → α → Prop} (hT : ∀ a b, R a b → S a b → T a b) {l : List α} (h : l.Pairwise R) (h' : l.Pairwise S) : l.Pairwise T := by
  induction l with
  | nil => exact List.Pairwise.nil
  | cons a l ih =>
    rw [List.pairwise_cons] at h h' ⊢
    exact ⟨fun b hb => hT a b (h.1 b hb) (h'.1 b hb), ih h.2 h'.2⟩
/-- In order, each once. -/
def Rises (us : List (List UInt8)) : Prop := us.Pairwise fun a b => a ≤ b ∧ a ≠ b
theorem Rises.nodup {us : List (List UInt8)} (h : Rises us) : us.Nodup := pairs_weaken (fun _ _ h => h.2) h
theorem Rises.up {us : List (List UInt8)} (h : Rises us) : us.Pairwise fun a b => a ≤ b := pairs_weaken (fun _ _ h => h.1) h
theorem rises_unique (us vs : List (List UInt8)) (hu : Rises us) (hv : Rises vs) (h : ∀ x, x ∈ us ↔ x ∈ vs) : us = vs := by
  have nu : us.Nodup := hu.nodup
  have nv : vs.Nodup := hv.nodup
  exact List.Perm.eq_of_pairwise (le := fun a b => a ≤ b) (fun a b _ _ h1 h2 => List.le_antisymm h1 h2) hu.up hv.up ((List.perm_ext_iff_of_nodup nu nv).2 h)
theorem rises_sort (ss : List (List UInt8)) (h : ss.Nodup) : Rises (ss.mergeSort (fun x y => decide (x ≤ y))) ∧ ∀ x, x ∈ ss.mergeSort (fun x y => decide (x ≤ y)) ↔ x ∈ ss := by
  have tr : ∀ a b c : List UInt8, leB a b = true → leB b c = true → leB a c = true := fun a b c h1 h2 => by simp only [leB, decide_eq_true_eq] at *; exact List.le_trans h1 h2
  have to : ∀ a b : List UInt8, (leB a b || leB b a) = true := fun a b => by simp only [leB, Bool.or_eq_true, decide_eq_true_eq]; exact List.le_total a b
  have hp := List.mergeSort_perm ss (fun x y => decide (x ≤ y))
  have h1 := List.pairwise_mergeSort tr to ss
  have h2 : (ss.mergeSort (fun x y => decide (x ≤ y))).Nodup := hp.nodup_iff.2 h
  refine ⟨?_, fun x => hp.mem_iff⟩
  exact pairs_both (fun a b h1 h2 => ⟨by simpa [leB] using h1, h2⟩) h1 h2
/-- What Uses answers. -/
def Us (s : List UInt8) (us : List (List UInt8)) : Prop := Rises us ∧ ∀ x, x ∈ us ↔ x ∈ tx s ∧ isName x = true
theorem Us.unique {s s' : List UInt8} {us vs : List (List UInt8)} (h : Us s us) (h' : Us s' vs) (e : tx s = tx s') : us = vs :=
  rises_unique us vs h.1 h'.1 fun x => by rw [h.2 x, h'.2 x, e]

end Go.Proofs.Ytpjfmgmhohpjmaa
