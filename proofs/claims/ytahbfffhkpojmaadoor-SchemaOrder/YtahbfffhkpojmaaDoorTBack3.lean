/-
  Right types without blanks at their guards' ends, written and read in three ways.
-/
import Derived.Test.YtahbfffhkpojmaaDoorTBack2
import Derived.Test.YtahbfffhkpojmaaDoorTKn
namespace Go.Proofs.YtahbfffhkpojmaaDoor
open Go.RowKit

theorem tight_all {t : Ty} (h : tightB t = true) : ∀ r ∈ t.stages ++ t.marks, r.guard ≠ [] ∧ r.guard.head? ≠ some 32 ∧ r.guard.getLast? ≠ some 32 := by
  intro r hr
  have := List.all_eq_true.1 h r hr
  simp only [okG, Bool.and_eq_true, decide_eq_true_eq] at this
  exact ⟨this.1.1, this.1.2, this.2⟩
theorem fine_A {t : Ty} (h : Gd t) (a : Nat) : ∀ p ∈ t.attrs.map (pdA a), Fine p := by
  intro p hp
  obtain ⟨x, hx, rfl⟩ := List.mem_map.1 hp
  exact ⟨fun _ => h.attrs x hx, fun h => absurd rfl h⟩
theorem fine_S {t : Ty} (h : Gd t) (ht : tightB t = true) (a : Nat) : ∀ p ∈ t.stages.map (pdS a), Fine p := by
  intro p hp
  obtain ⟨x, hx, rfl⟩ := List.mem_map.1 hp
  refine ⟨(fun h => by cases h), fun _ => ⟨(h.stages x hx).1, (h.stages x hx).2.1, tight_all ht x (List.mem_append_left _ hx)⟩⟩
theorem fine_M {t : Ty} (h : Gd t) (ht : tightB t = true) (a : Nat) : ∀ p ∈ t.marks.map (pdM a), Fine p := by
  intro p hp
  obtain ⟨x, hx, rfl⟩ := List.mem_map.1 hp
  refine ⟨(fun h => by cases h), fun _ => ⟨(h.marks x hx).1, (h.marks x hx).2.1, tight_all ht x (List.mem_append_right _ hx)⟩⟩
def pads (a : Nat) (t : Ty) : List Pd := t.attrs.map (pdA a) ++ t.stages.map (pdS a) ++ t.marks.map (pdM a)
theorem fine_all {t : Ty} (h : Gd t) (ht : tightB t = true) (a : Nat) : ∀ p ∈ pads a t, Fine p := by
  intro p hp
  unfold pads at hp
  simp only [List.mem_append] at hp
  rcases hp with (hp | hp) | hp
  · exact fine_A h a p hp
  · exact fine_S h ht a p hp
  · exact fine_M h ht a p hp
theorem fold_all (a : Nat) (t : Ty) : (pads a t).foldl addT ⟨t.name, [], [], []⟩ = t := by
  unfold pads
  rw [List.foldl_append, List.foldl_append, fold_A, fold_S, fold_M]
  simp
theorem pad_A (x : At) : padT (pdA 1 x) = pA x := by simp [padT, pdA, core, pA]
theorem pad_S (x : Ru) : padT (pdS 1 x) = pS x := by simp [padT, pdS, core, pS]
theorem pad_M (x : Ru) : padT (pdM 1 x) = pM x := by simp [padT, pdM, core, pM]
theorem flat_map {α : Type} (f : α → Pd) (g : α → List UInt8) (h : ∀ x, padT (f x) = g x) (l : List α) : ((l.map f).map padT).flatMap semi = l.flatMap (fun x => semi (g x)) := by
  induction l with
  | nil => rfl
  | cons x l ih => simp only [List.map_cons, List.flatMap_cons, h, ih]
theorem write_pads (t : Ty) : write t = (List.replicate 0 32 ++ pT t.name ++ List.replicate 0 32) ++ ((pads 1 t).map padT).flatMap semi := by
  unfold pads
  rw [List.map_append, List.map_append, List.flatMap_append, List.flatMap_append, flat_map _ _ pad_A, flat_map _ _ pad_S, flat_map _ _ pad_M]
  simp [write]
theorem read_of {s : List UInt8} {t : Ty} (h : rd s = .inr t) (hr : right t = 0) : read s = (t, 0, 0) := by
  unfold read
  rw [h]
  simp only
  rw [if_neg (by omega)]
theorem read_write {t : Ty} (h : right t = 0) (ht : tightB t = true) : read (write t) = (t, 0, 0) := by
  refine read_of ?_ h
  rw [write_pads, rd_pads _ (right_good h).name 0 0 _ (fine_all (right_good h) ht 1), fold_all]
/-- Blanks behind each semicolon. -/
def spaced (s : List UInt8) : List UInt8 := s.flatMap (fun c => if c = 59 then [59, 32, 32] else [c])
theorem spaced_no {q : List UInt8} (h : ∀ c ∈ q, c ≠ 59) : spaced q = q := by
  unfold spaced
  induction q with
  | nil => rfl
  | cons c q ih => rw [List.flatMap_cons, if_neg (h c (List.mem_cons_self ..)), ih (fun c hc => h c (List.mem_cons_of_mem _ hc))]; rfl
theorem spaced_append (a b : List UInt8) : spaced (a ++ b) = spaced a ++ spaced b := by simp [spaced]
theorem spaced_pads : ∀ (l : List Pd), (∀ p ∈ l, Fine p) → spaced ((l.map padT).flatMap semi) = ((l.map (fun p => { p with a := p.a + 2 })).map padT).flatMap semi
  | [], _ => rfl
  | p :: l, h => by
    have hp := pad_semi (h p (List.mem_cons_self ..))
    have e1 : spaced (semi (padT p)) = semi (padT { p with a := p.a + 2 }) := by
      show spaced ([59] ++ padT p) = _
      rw [spaced_append, spaced_no hp]
      have : padT { p with a := p.a + 2 } = 32 :: 32 :: padT p := by
        simp [padT, List.replicate_succ, core]
      rw [this]
      rfl
    simp only [List.map_cons, List.flatMap_cons]
    rw [spaced_append, e1, spaced_pads l (fun q hq => h q (List.mem_cons_of_mem _ hq))]
/-- A blank more behind the last part. -/
def lastB : List Pd → List Pd
  | [] => []
  | [p] => [{ p with b := p.b + 1 }]
  | p :: q :: r => p :: lastB (q :: r)
theorem lastB_text : ∀ (l : List Pd), l ≠ [] → ((lastB l).map padT).flatMap semi = (l.map padT).flatMap semi ++ [32]
  | [], h => absurd rfl h
  | [p], _ => by
    have : padT { p with b := p.b + 1 } = padT p ++ [32] := by
      simp only [padT, core, List.replicate_succ', List.append_assoc]
    simp [lastB, this, semi]
  | p :: q :: r, _ => by
    have := lastB_text (q :: r) (by simp)
    simp only [lastB, List.map_cons, List.flatMap_cons] at this ⊢
    rw [this]
    simp
theorem lastB_fold : ∀ (l : List Pd) (t : Ty), (lastB l).foldl addT t = l.foldl addT t
  | [], _ => rfl
  | [p], t => by simp [lastB, addT]
  | p :: q :: r, t => by
    simp only [lastB, List.foldl_cons]
    have := lastB_fold (q :: r) (addT t p)
    simpa using this
theorem lastB_fine : ∀ (l : List Pd), (∀ p ∈ l, Fine p) → ∀ p ∈ lastB l, Fine p
  | [], _ => fun p hp => by simp [lastB] at hp
  | [p], h => fun q hq => by
    have e : q = { p with b := p.b + 1 } := by simpa [lastB] using hq
    subst e
    have := h p (by simp)
    exact ⟨this.attr, this.rule⟩
  | p :: q :: r, h => fun x hx => by
    simp only [lastB] at hx
    rcases List.mem_cons.1 hx with rfl | hx
    · exact h x (by simp)
    · exact lastB_fine (q :: r) (fun y hy => h y (List.mem_cons_of_mem _ hy)) x hx
theorem more_fold : ∀ (l : List Pd) (t : Ty), (l.map (fun p => { p with a := p.a + 2 })).foldl addT t = l.foldl addT t
  | [], _ => rfl
  | p :: l, t => by
    simp only [List.map_cons, List.foldl_cons]
    rw [more_fold l]
    rfl
theorem read_spaced {t : Ty} (h : right t = 0) (ht : tightB t = true) : read ([32, 32] ++ spaced (write t) ++ [32]) = (t, 0, 0) := by
  refine read_of ?_ h
  have hg := right_good h
  have hf := fine_all hg ht 1
  obtain ⟨n1, n2, _⟩ := name_chars hg.name
  have e0 : spaced (pT t.name) = pT t.name := spaced_no (by
    intro c hc
    simp only [pT, List.mem_append, List.mem_cons, List.not_mem_nil, or_false] at hc
    rcases hc with hc | hc
    · rcases hc with rfl | rfl | rfl | rfl | rfl <;> decide
    · exact (n1 c hc).2)
  have e1 : spaced (write t) = pT t.name ++ (((pads 1 t).map (fun p => { p with a := p.a + 2 })).map padT).flatMap semi := by
    rw [write_pads, spaced_append, spaced_pads _ hf]
    simp [e0]
  have hf2 : ∀ p ∈ (pads 1 t).map (fun p => { p with a := p.a + 2 }), Fine p := by
    intro p hp
    obtain ⟨q, hq, rfl⟩ := List.mem_map.1 hp
    exact ⟨(hf q hq).attr, (hf q hq).rule⟩
  rw [e1]
  by_cases h0 : (pads 1 t).map (fun p => { p with a := p.a + 2 }) = []
  · have hx := rd_pads t.name hg.name 2 1 [] (fun p hp => by simp at hp)
    rw [h0]
    have e2 : ([32, 32] ++ (pT t.name ++ (([] : List Pd).map padT).flatMap semi) ++ [32] : List UInt8) = (List.replicate 2 32 ++ pT t.name ++ List.replicate 1 32) ++ (([] : List Pd).map padT).flatMap semi := by simp [List.replicate]
    rw [e2, hx]
    have h1 : pads 1 t = [] := by simpa using h0
    have := fold_all 1 t
    rw [h1] at this
    rw [this]
  · have hx := rd_pads t.name hg.name 2 0 (lastB ((pads 1 t).map (fun p => { p with a := p.a + 2 }))) (lastB_fine _ hf2)
    rw [lastB_text _ h0, lastB_fold, more_fold, fold_all] at hx
    rw [← hx]
    congr 1
    simp [List.replicate]
theorem read_order {t : Ty} (h : right t = 0) (ht : tightB t = true) : read (pT t.name ++ t.marks.flatMap (fun a => semi (pM a)) ++ t.stages.flatMap (fun a => semi (pS a)) ++ t.attrs.flatMap (fun a => semi (pA a))) = (t, 0, 0) := by
  refine read_of ?_ h
  have hg := right_good h
  have hx := rd_pads t.name hg.name 0 0 (t.marks.map (pdM 1) ++ t.stages.map (pdS 1) ++ t.attrs.map (pdA 1)) (by
    intro p hp
    simp only [List.mem_append] at hp
    rcases hp with (hp | hp) | hp
    · exact fine_M hg ht 1 p hp
    · exact fine_S hg ht 1 p hp
    · exact fine_A hg 1 p hp)
  rw [List.foldl_append, List.foldl_append, fold_M, fold_S, fold_A, List.map_append, List.map_append, List.flatMap_append, List.flatMap_append, flat_map _ _ pad_A, flat_map _ _ pad_S, flat_map _ _ pad_M] at hx
  simpa using hx
/-- How long what is written may be. -/
theorem flat_len {α : Type} (f : α → List UInt8) (N : Nat) (l : List α) (h : ∀ x ∈ l, (f x).length ≤ N) : (l.flatMap f).length ≤ l.length * N := by
  induction l with
  | nil => simp
  | cons x l ih =>
    rw [List.flatMap_cons, List.length_append, List.length_cons, Nat.succ_mul]
    have := h x (List.mem_cons_self ..)
    have := ih (fun y hy => h y (List.mem_cons_of_mem _ hy))
    omega
theorem write_short {t : Ty} (h : right t = 0) : (write t).length ≤ 3000 ∧ (pT t.name).length ≤ 100 ∧ (t.attrs.flatMap (fun a => semi (pA a))).length ≤ 600 ∧ (t.stages.flatMap (fun a => semi (pS a))).length ≤ 1200 ∧ (t.marks.flatMap (fun a => semi (pM a))).length ≤ 1200 := by
  have hg := right_good h
  obtain ⟨_, l1, l2, l3, _⟩ := right_few h
  obtain ⟨_, _, n3⟩ := name_chars hg.name
  have a1 : (pT t.name).length ≤ 17 := by simp [pT]; omega
  have a2 := flat_len (fun a => semi (pA a)) 50 t.attrs (fun x hx => by
    obtain ⟨b1, b2⟩ := hg.attrs x hx
    obtain ⟨_, _, b3⟩ := name_chars b1
    obtain ⟨⟨c1, c2⟩, ⟨d1, d2⟩, e1, e2⟩ := ranged_all b2
    have f1 := (small_of c1 c2).2.2.2.1
    have f2 := (small_of d1 d2).2.2.2.1
    have f3 := (small_of e1 e2).2.2.2.1
    simp [semi, pA]
    omega)
  have a3 := flat_len (fun a => semi (pS a)) 160 t.stages (fun x hx => by
    obtain ⟨b1, _, b2⟩ := hg.stages x hx
    obtain ⟨_, _, b3⟩ := name_chars b1
    simp [semi, pS]
    omega)
  have a4 := flat_len (fun a => semi (pM a)) 160 t.marks (fun x hx => by
    obtain ⟨b1, _, b2⟩ := hg.marks x hx
    obtain ⟨_, _, b3⟩ := name_chars b1
    simp [semi, pM]
    omega)
  refine ⟨?_, by omega, by omega, by omega, by omega⟩
  unfold write
  simp only [List.length_append]
  omega
theorem right_fit {t : Ty} (h : right t = 0) : Tfit t := by
  intro a ha
  obtain ⟨⟨c1, c2⟩, ⟨d1, d2⟩, e1, e2⟩ := ranged_all ((right_good h).attrs a ha).2
  unfold F64
  omega

end Go.Proofs.YtahbfffhkpojmaaDoor
