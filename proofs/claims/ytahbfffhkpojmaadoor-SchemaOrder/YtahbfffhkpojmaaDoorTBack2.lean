/-
  A text of parts with blanks around them, read.
-/
import Derived.Test.YtahbfffhkpojmaaDoorTBack
namespace Go.Proofs.YtahbfffhkpojmaaDoor
open Go.RowKit

/-- A part: how many blanks ahead, how many behind, which kind (nought an attribute, one a stage, two a mark), what it says. -/
structure Pd where
  a : Nat
  b : Nat
  k : Nat
  x : At
  r : Ru
def core (p : Pd) : List UInt8 :=
  if p.k = 0 then [97, 116, 116, 114] ++ 32 :: (p.x.name ++ 32 :: (Lib.itoa p.x.start ++ 32 :: (Lib.itoa p.x.lo ++ 32 :: Lib.itoa p.x.hi)))
  else (if p.k = 1 then [115, 116, 97, 103, 101] else [109, 97, 114, 107]) ++ 32 :: (p.r.name ++ 32 :: p.r.guard)
def padT (p : Pd) : List UInt8 := List.replicate p.a 32 ++ core p ++ List.replicate p.b 32
def addT (t : Ty) (p : Pd) : Ty := if p.k = 0 then { t with attrs := t.attrs ++ [p.x] } else if p.k = 1 then { t with stages := t.stages ++ [p.r] } else { t with marks := t.marks ++ [p.r] }
structure Fine (p : Pd) : Prop where
  attr : p.k = 0 → isName p.x.name = true ∧ ranged p.x = true
  rule : p.k ≠ 0 → isName p.r.name = true ∧ (∀ c ∈ p.r.guard, c ≠ 59) ∧ p.r.guard ≠ [] ∧ p.r.guard.head? ≠ some 32 ∧ p.r.guard.getLast? ≠ some 32
theorem head_name {x : List UInt8} (h : isName x = true) (y : List UInt8) : (x ++ y).head? ≠ some 32 := by
  obtain ⟨h1, h2, _⟩ := name_chars h
  cases x with
  | nil => exact absurd rfl h2
  | cons c r =>
    have := (h1 c (List.mem_cons_self ..)).1
    simpa using this
theorem head_itoa {n : Int} (h1 : -1000 ≤ n) (h2 : n ≤ 1000) (y : List UInt8) : (Lib.itoa n ++ y).head? ≠ some 32 := by
  obtain ⟨_, _, h3, _, h4⟩ := small_of h1 h2
  cases hx : Lib.itoa n with
  | nil => exact absurd hx h4
  | cons c r =>
    have := (h3 c (by rw [hx]; exact List.mem_cons_self ..)).1
    simpa using this
theorem ranged_all {x : At} (h : ranged x = true) : (-1000 ≤ x.start ∧ x.start ≤ 1000) ∧ (-1000 ≤ x.lo ∧ x.lo ≤ 1000) ∧ (-1000 ≤ x.hi ∧ x.hi ≤ 1000) := by
  simp only [ranged, Bool.and_eq_true, decide_eq_true_eq] at h
  omega
theorem last_ne {x y : List UInt8} (h0 : y ≠ []) (h : y.getLast? ≠ some 32) : (x ++ y).getLast? ≠ some 32 := by
  rw [List.getLast?_append]
  cases hl : y.getLast? with
  | none => exact absurd (List.getLast?_eq_none_iff.1 hl) h0
  | some d =>
    rw [hl] at h
    simpa using h
theorem last_itoa {n : Int} (h1 : -1000 ≤ n) (h2 : n ≤ 1000) : (Lib.itoa n).getLast? ≠ some 32 := by
  obtain ⟨_, _, h3, _, h4⟩ := small_of h1 h2
  intro h
  exact (h3 32 (List.mem_of_getLast? h)).1 rfl
/-- A part by itself. -/
theorem par_core (t : Ty) {p : Pd} (h : Fine p) : par0 t (core p) = some (addT t p) ∧ (core p).head? ≠ some 32 ∧ (core p).getLast? ≠ some 32 ∧ core p ≠ [] ∧ ∀ c ∈ core p, c ≠ 59 := by
  by_cases hk : p.k = 0
  · obtain ⟨h1, h2⟩ := h.attr hk
    obtain ⟨⟨a1, a2⟩, ⟨b1, b2⟩, c1, c2⟩ := ranged_all h2
    obtain ⟨s1, s2, s3, _, s4⟩ := small_of a1 a2
    obtain ⟨l1, l2, l3, _, l4⟩ := small_of b1 b2
    obtain ⟨u1, u2, u3, _, u4⟩ := small_of c1 c2
    obtain ⟨n1, n2, _⟩ := name_chars h1
    have e : core p = [97, 116, 116, 114] ++ 32 :: (p.x.name ++ 32 :: (Lib.itoa p.x.start ++ 32 :: (Lib.itoa p.x.lo ++ 32 :: Lib.itoa p.x.hi))) := by unfold core; rw [if_pos hk]
    rw [e]
    refine ⟨?_, by simp, ?_, by simp, ?_⟩
    · unfold par0 addT
      rw [wrd_cons [97, 116, 116, 114] _ (by decide) (head_name h1 _), if_pos rfl, if_pos hk]
      unfold rdA
      rw [wrd_cons p.x.name _ (fun c hc => (n1 c hc).1) (head_itoa a1 a2 _)]
      simp only
      rw [wrd_cons (Lib.itoa p.x.start) _ (fun c hc => (s3 c hc).1) (head_itoa b1 b2 _)]
      simp only
      rw [wrd_cons (Lib.itoa p.x.lo) _ (fun c hc => (l3 c hc).1) (by have := head_itoa c1 c2 []; rwa [List.append_nil] at this)]
      simp only
      rw [wrd_last (Lib.itoa p.x.hi) (fun c hc => (u3 c hc).1)]
      simp only
      rw [if_pos ⟨s1, l1, u1, trivial⟩, s2, l2, u2]
      rfl
    · rw [show ([97, 116, 116, 114] ++ 32 :: (p.x.name ++ 32 :: (Lib.itoa p.x.start ++ 32 :: (Lib.itoa p.x.lo ++ 32 :: Lib.itoa p.x.hi))) : List UInt8) = ([97, 116, 116, 114] ++ 32 :: (p.x.name ++ 32 :: (Lib.itoa p.x.start ++ 32 :: (Lib.itoa p.x.lo ++ [32])))) ++ Lib.itoa p.x.hi by simp]
      exact last_ne u4 (last_itoa c1 c2)
    · intro c hc
      simp only [List.mem_append, List.mem_cons, List.not_mem_nil, or_false] at hc
      rcases hc with hc | rfl | hc | rfl | hc | rfl | hc | rfl | hc
      · rcases hc with rfl | rfl | rfl | rfl <;> decide
      · decide
      · exact (n1 c hc).2
      · decide
      · exact (s3 c hc).2
      · decide
      · exact (l3 c hc).2
      · decide
      · exact (u3 c hc).2
  · obtain ⟨h1, h2, h3, h4, h5⟩ := h.rule hk
    obtain ⟨n1, n2, _⟩ := name_chars h1
    obtain ⟨ky, hky⟩ : ∃ ky : List UInt8, ky = (if p.k = 1 then [115, 116, 97, 103, 101] else [109, 97, 114, 107]) := ⟨_, rfl⟩
    have e : core p = ky ++ 32 :: (p.r.name ++ 32 :: p.r.guard) := by unfold core; rw [if_neg hk, hky]
    have kc : ∀ c ∈ ky, c ≠ 32 ∧ c ≠ 59 := by
      rw [hky]
      split <;> decide
    have kn : ky.head? ≠ some 32 ∧ ky ≠ [] := by
      rw [hky]
      split <;> decide
    rw [e]
    refine ⟨?_, ?_, ?_, by simp, ?_⟩
    · unfold par0 addT
      rw [wrd_cons ky _ (fun c hc => (kc c hc).1) (head_name h1 _), if_neg hk]
      have hr : rdR (p.r.name ++ 32 :: p.r.guard) = some p.r := by
        unfold rdR
        rw [wrd_cons p.r.name _ (fun c hc => (n1 c hc).1) h4, if_neg h3]
      by_cases h6 : p.k = 1
      · rw [if_pos h6] at hky ⊢
        subst hky
        rw [if_neg (by simp), if_pos rfl]
        simp only
        rw [hr]
        rfl
      · rw [if_neg h6] at hky ⊢
        subst hky
        rw [if_neg (by simp), if_neg (by simp), if_pos rfl]
        simp only
        rw [hr]
        rfl
    · cases ky with
      | nil => exact absurd rfl kn.2
      | cons c r => simpa using kn.1
    · rw [show (ky ++ 32 :: (p.r.name ++ 32 :: p.r.guard) : List UInt8) = (ky ++ 32 :: (p.r.name ++ [32])) ++ p.r.guard by simp]
      exact last_ne h3 h5
    · intro c hc
      simp only [List.mem_append, List.mem_cons] at hc
      rcases hc with hc | rfl | hc | rfl | hc
      · exact (kc c hc).2
      · decide
      · exact (n1 c hc).2
      · decide
      · exact h2 c hc
theorem par_pad (t : Ty) {p : Pd} (h : Fine p) : par t (padT p) = some (addT t p) := by
  obtain ⟨h1, h2, h3, h4, _⟩ := par_core t h
  unfold par padT
  rw [trim_blanks p.a (core p) p.b h2 h3 h4]
  exact h1
theorem rdp_pads : ∀ (l : List Pd) (t : Ty) (k : Nat), (∀ p ∈ l, Fine p) → rdp t k (l.map padT) = .inr (l.foldl addT t)
  | [], _, _, _ => rfl
  | p :: l, t, k, h => by
    show (match par t (padT p) with
      | none => Sum.inl k
      | some u => rdp u (k + (padT p).length + 1) (l.map padT)) = _
    rw [par_pad t (h p (List.mem_cons_self ..))]
    exact rdp_pads l _ _ (fun q hq => h q (List.mem_cons_of_mem _ hq))
theorem spl_no {q : List UInt8} (h : ∀ c ∈ q, c ≠ 59) (r : List UInt8) : spl (q ++ 59 :: r) = (q, (spl r).1 :: (spl r).2) := by
  induction q with
  | nil => rfl
  | cons c q ih =>
    rw [List.cons_append, spl, if_neg (h c (List.mem_cons_self ..)), ih (fun c hc => h c (List.mem_cons_of_mem _ hc))]
theorem spl_last {q : List UInt8} (h : ∀ c ∈ q, c ≠ 59) : spl q = (q, []) := by
  induction q with
  | nil => rfl
  | cons c q ih => rw [spl, if_neg (h c (List.mem_cons_self ..)), ih (fun c hc => h c (List.mem_cons_of_mem _ hc))]
theorem spl_join : ∀ (qs : List (List UInt8)) (q : List UInt8), (∀ c ∈ q, c ≠ 59) → (∀ p ∈ qs, ∀ c ∈ p, c ≠ 59) → spl (q ++ qs.flatMap semi) = (q, qs)
  | [], q, h, _ => by simpa using spl_last h
  | p :: qs, q, h, hq => by
    rw [List.flatMap_cons]
    show spl (q ++ (59 :: p ++ qs.flatMap semi)) = _
    rw [List.cons_append, spl_no h, spl_join qs p (hq p (List.mem_cons_self ..)) (fun r hr => hq r (List.mem_cons_of_mem _ hr))]
theorem pad_semi {p : Pd} (h : Fine p) : ∀ c ∈ padT p, c ≠ 59 := by
  intro c hc
  unfold padT at hc
  simp only [List.mem_append] at hc
  rcases hc with (hc | hc) | hc
  · rw [List.eq_of_mem_replicate hc]; decide
  · exact (par_core Ty.none h).2.2.2.2 c hc
  · rw [List.eq_of_mem_replicate hc]; decide
/-- The whole text. -/
theorem rd_pads (n : List UInt8) (hn : isName n = true) (a b : Nat) (l : List Pd) (hl : ∀ p ∈ l, Fine p) :
    rd ((List.replicate a 32 ++ pT n ++ List.replicate b 32) ++ (l.map padT).flatMap semi) = .inr (l.foldl addT ⟨n, [], [], []⟩) := by
  obtain ⟨n1, n2, _⟩ := name_chars hn
  have e : pT n = [116, 121, 112, 101] ++ 32 :: n := rfl
  have h59 : ∀ c ∈ List.replicate a 32 ++ pT n ++ List.replicate b 32, c ≠ 59 := by
    intro c hc
    simp only [List.mem_append] at hc
    rcases hc with (hc | hc) | hc
    · rw [List.eq_of_mem_replicate hc]; decide
    · rw [e] at hc
      simp only [List.mem_append, List.mem_cons, List.not_mem_nil, or_false] at hc
      rcases hc with hc | rfl | hc
      · rcases hc with rfl | rfl | rfl | rfl <;> decide
      · decide
      · exact (n1 c hc).2
    · rw [List.eq_of_mem_replicate hc]; decide
  have hs := spl_join (l.map padT) _ h59 (fun p hp => by
    obtain ⟨q, hq, rfl⟩ := List.mem_map.1 hp
    exact pad_semi (hl q hq))
  have hf : fst1 (List.replicate a 32 ++ pT n ++ List.replicate b 32) = some n := by
    unfold fst1
    have hlast : (pT n).getLast? ≠ some 32 := by
      rw [e, show ([116, 121, 112, 101] ++ 32 :: n : List UInt8) = ([116, 121, 112, 101] ++ [32]) ++ n by simp]
      refine last_ne n2 (fun h => (n1 32 (List.mem_of_getLast? h)).1 rfl)
    rw [trim_blanks a (pT n) b (by rw [e]; simp) hlast (by rw [e]; simp), e]
    unfold fst0
    have hh : n.head? ≠ some 32 := by have := head_name hn []; rwa [List.append_nil] at this
    rw [wrd_cons [116, 121, 112, 101] n (by decide) hh]
    simp only
    rw [wrd_last n (fun c hc => (n1 c hc).1), if_pos ⟨by simp, n2, by simp⟩]
  unfold rd
  rw [hs]
  simp only
  rw [hf]
  exact rdp_pads l _ _ hl
/-- A type's parts. -/
def pdA (a : Nat) (x : At) : Pd := ⟨a, 0, 0, x, ⟨[], []⟩⟩
def pdS (a : Nat) (r : Ru) : Pd := ⟨a, 0, 1, ⟨[], 0, 0, 0⟩, r⟩
def pdM (a : Nat) (r : Ru) : Pd := ⟨a, 0, 2, ⟨[], 0, 0, 0⟩, r⟩
theorem fold_A (a : Nat) : ∀ (l : List At) (t : Ty), (l.map (pdA a)).foldl addT t = { t with attrs := t.attrs ++ l }
  | [], t => by simp
  | x :: l, t => by
    rw [List.map_cons, List.foldl_cons, fold_A a l]
    simp [addT, pdA]
theorem fold_S (a : Nat) : ∀ (l : List Ru) (t : Ty), (l.map (pdS a)).foldl addT t = { t with stages := t.stages ++ l }
  | [], t => by simp
  | x :: l, t => by
    rw [List.map_cons, List.foldl_cons, fold_S a l]
    simp [addT, pdS]
theorem fold_M (a : Nat) : ∀ (l : List Ru) (t : Ty), (l.map (pdM a)).foldl addT t = { t with marks := t.marks ++ l }
  | [], t => by simp
  | x :: l, t => by
    rw [List.map_cons, List.foldl_cons, fold_M a l]
    simp [addT, pdM]

end Go.Proofs.YtahbfffhkpojmaaDoor
