/-
  Cases on plain lists: what they see, how marks are got, what operations make of them, how they are told.
-/
import Derived.Test.YtnddpalngjmhnabDoorTPlain
import Derived.Test.YtnddpalngjmhnabDoorQ5
namespace Go.Proofs.YtnddpalngjmhnabDoor
open Go.RowKit

/-- A state, an operation. -/
structure Sa where
  type : List UInt8
  vals : List Int
  done : List Bool
  got : List Bool
structure Oq where
  kind : Int
  cas : List UInt8
  name : List UInt8
  n : Int
def Sa.none : Sa := ⟨[], [], [], []⟩

/-- What guards see. -/
def sees (s : Sa) : List Int := s.vals ++ (s.done ++ s.got).map tr
def hld (t : Ty) (s : Sa) (g : List UInt8) : Bool := (evl (nms t) (sees s) g).1 != 0
def Sa.mark (s : Sa) (i : Nat) : Sa := { s with got := s.got.set i true }
/-- A round over the marks from i on: what is got then; was one got? -/
def rnd (t : Ty) : Nat → List Ru → Sa → Sa × Bool
  | _, [], s => (s, false)
  | i, r :: l, s => if s.got[i]? = some false ∧ hld t s r.guard = true then ((rnd t (i + 1) l (s.mark i)).1, true) else rnd t (i + 1) l s
def stl (t : Ty) : Nat → Sa → Sa
  | 0, s => s
  | n + 1, s => if (rnd t 0 t.marks s).2 = true then stl t n (rnd t 0 t.marks s).1 else s
def wanting (s : Sa) : Nat := s.got.count false
def settled (t : Ty) (s : Sa) : Sa := stl t (wanting s + 1) s

/-- Two states alike but for their marks, which only grow. -/
structure Grows (s s' : Sa) : Prop where
  type : s'.type = s.type
  vals : s'.vals = s.vals
  done : s'.done = s.done
  got : s'.got.length = s.got.length
  stays : ∀ i : Nat, s.got[i]? = some true → s'.got[i]? = some true
theorem Grows.refl (s : Sa) : Grows s s := ⟨rfl, rfl, rfl, rfl, fun _ h => h⟩
theorem Grows.trans {a b c : Sa} (h : Grows a b) (k : Grows b c) : Grows a c :=
  ⟨k.type.trans h.type, k.vals.trans h.vals, k.done.trans h.done, k.got.trans h.got, fun i hi => k.stays i (h.stays i hi)⟩
theorem Grows.mark (s : Sa) (i : Nat) : Grows s (s.mark i) := by
  refine ⟨rfl, rfl, rfl, by simp [Sa.mark], fun j hj => ?_⟩
  show (s.got.set i true)[j]? = some true
  rw [List.getElem?_set]
  by_cases h : i = j
  · subst h
    have : i < s.got.length := by
      rcases Nat.lt_or_ge i s.got.length with h | h
      · exact h
      · rw [List.getElem?_eq_none h] at hj; cases hj
    simp [this]
  · rw [if_neg h]; exact hj
theorem count_set : ∀ {l : List Bool} {i : Nat}, l[i]? = some false → (l.set i true).count false + 1 = l.count false
  | [], _, h => by simp at h
  | b :: l, 0, h => by
    simp only [List.getElem?_cons_zero, Option.some.injEq] at h
    subst h
    simp
  | b :: l, i + 1, h => by
    have := count_set (l := l) (i := i) (by simpa using h)
    simp only [List.set_cons_succ, List.count_cons]
    omega
theorem rnd_facts (t : Ty) : ∀ (l : List Ru) (i : Nat) (s : Sa), Grows s (rnd t i l s).1 ∧ ((rnd t i l s).2 = false → (rnd t i l s).1 = s) ∧ wanting (rnd t i l s).1 ≤ wanting s ∧ ((rnd t i l s).2 = true → wanting (rnd t i l s).1 < wanting s)
  | [], i, s => ⟨Grows.refl s, fun _ => rfl, Nat.le_refl _, fun h => (by cases h)⟩
  | r :: l, i, s => by
    simp only [rnd]
    by_cases h : s.got[i]? = some false ∧ hld t s r.guard = true
    · rw [if_pos h]
      obtain ⟨h1, h2, h3, h4⟩ := rnd_facts t l (i + 1) (s.mark i)
      have hc : wanting (s.mark i) + 1 = wanting s := count_set h.1
      exact ⟨(Grows.mark s i).trans h1, fun h => (by cases h), (by show wanting (rnd t (i + 1) l (s.mark i)).1 ≤ _; omega), fun _ => (by show wanting (rnd t (i + 1) l (s.mark i)).1 < _; omega)⟩
    · rw [if_neg h]
      exact rnd_facts t l (i + 1) s
theorem stl_fuel (t : Ty) : ∀ (n m : Nat) (s : Sa), wanting s < n → wanting s < m → stl t n s = stl t m s
  | 0, _, _, h, _ => by omega
  | _ + 1, 0, _, _, h => by omega
  | n + 1, m + 1, s, h1, h2 => by
    simp only [stl]
    by_cases h : (rnd t 0 t.marks s).2 = true
    · rw [if_pos h, if_pos h]
      have := (rnd_facts t t.marks 0 s).2.2.2 h
      exact stl_fuel t n m _ (by omega) (by omega)
    · rw [if_neg h, if_neg h]
theorem settled_again {t : Ty} {s : Sa} (h : (rnd t 0 t.marks s).2 = true) : settled t s = settled t (rnd t 0 t.marks s).1 := by
  have hw := (rnd_facts t t.marks 0 s).2.2.2 h
  unfold settled
  rw [stl, if_pos h]
  exact stl_fuel t _ _ _ (by omega) (by omega)
theorem settled_stop {t : Ty} {s : Sa} (h : (rnd t 0 t.marks s).2 = false) : settled t s = s := by
  unfold settled
  rw [stl, if_neg (by rw [h]; decide)]
theorem settled_grows (t : Ty) (s : Sa) : Grows s (settled t s) := by
  generalize hn : wanting s = n
  induction n using Nat.strongRecOn generalizing s with
  | _ n ih =>
    obtain ⟨h1, _, _, h4⟩ := rnd_facts t t.marks 0 s
    by_cases h : (rnd t 0 t.marks s).2 = true
    · rw [settled_again h]
      exact h1.trans (ih _ (by have := h4 h; omega) _ rfl)
    · rw [settled_stop (by simpa using h)]
      exact Grows.refl s
/-- A round that gets none leaves none that might be got. -/
theorem rnd_none (t : Ty) : ∀ (l : List Ru) (i : Nat) (s : Sa), (rnd t i l s).2 = false → ∀ j (h : j < l.length), s.got[i + j]? = some false → hld t s (l[j]).guard = false
  | [], _, _, _, j, h, _ => by simp at h
  | r :: l, i, s, h, j, hj, hg => by
    simp only [rnd] at h
    by_cases hc : s.got[i]? = some false ∧ hld t s r.guard = true
    · rw [if_pos hc] at h; cases h
    · rw [if_neg hc] at h
      cases j with
      | zero =>
        simp only [Nat.add_zero] at hg
        simp only [List.getElem_cons_zero]
        cases hh : hld t s r.guard with
        | false => rfl
        | true => exact absurd ⟨hg, hh⟩ hc
      | succ j =>
        simp only [List.getElem_cons_succ]
        exact rnd_none t l (i + 1) s h j (by simpa using hj) (by rw [show i + 1 + j = i + (j + 1) by omega]; exact hg)
theorem settled_none (t : Ty) (s : Sa) : ∀ j (h : j < t.marks.length), (settled t s).got[j]? = some false → hld t (settled t s) (t.marks[j]).guard = false := by
  generalize hn : wanting s = n
  induction n using Nat.strongRecOn generalizing s with
  | _ n ih =>
    obtain ⟨_, _, _, h4⟩ := rnd_facts t t.marks 0 s
    by_cases h : (rnd t 0 t.marks s).2 = true
    · rw [settled_again h]
      exact ih _ (by have := h4 h; omega) _ rfl
    · have h' : (rnd t 0 t.marks s).2 = false := by simpa using h
      rw [settled_stop h']
      intro j hj hg
      exact rnd_none t t.marks 0 s h' j hj (by simpa using hg)
/-- One mark of a round. -/
theorem rnd_step {t : Ty} {i : Nat} {s : Sa} (h : i < t.marks.length) : rnd t i (t.marks.drop i) s = if s.got[i]? = some false ∧ hld t s (t.marks[i]).guard = true then ((rnd t (i + 1) (t.marks.drop (i + 1)) (s.mark i)).1, true) else rnd t (i + 1) (t.marks.drop (i + 1)) s := by
  rw [List.drop_eq_getElem_cons h]
  rfl
theorem rnd_over {t : Ty} {i : Nat} {s : Sa} (h : t.marks.length ≤ i) : rnd t i (t.marks.drop i) s = (s, false) := by
  rw [List.drop_eq_nil_of_le h]
  rfl

/-- Where a name stands. -/
def spot (ns : List (List UInt8)) (x : List UInt8) : Option Nat := if x ∈ ns then some (ns.idxOf x) else none
def wthn (a : At) (n : Int) : Bool := decide (a.lo ≤ n) && decide (n ≤ a.hi)
def At.nil : At := ⟨[], 0, 0, 0⟩
def Ru.nil : Ru := ⟨[], []⟩
def putP (t : Ty) (s : Sa) (k : Nat) (n : Int) : Sa × Nat := if wthn (t.attrs.getD k At.nil) n = true then ({ s with vals := s.vals.set k n }, 0) else (s, 34)
def setK (t : Ty) (s : Sa) (o : Oq) : Option Nat → Sa × Nat
  | none => (s, 31)
  | some k => putP t s k o.n
def setP (t : Ty) (s : Sa) (o : Oq) : Sa × Nat := setK t s o (spot (t.attrs.map At.name) o.name)
def addK (t : Ty) (s : Sa) (o : Oq) : Option Nat → Sa × Nat
  | none => (s, 31)
  | some k => if o.n < -2000 ∨ 2000 < o.n then (s, 34) else putP t s k (s.vals.getD k 0 + o.n)
def addP (t : Ty) (s : Sa) (o : Oq) : Sa × Nat := addK t s o (spot (t.attrs.map At.name) o.name)
def rdy (t : Ty) (s : Sa) (k : Nat) : Bool := !(s.done.getD k true) && hld t s (t.stages.getD k Ru.nil).guard
def fireK (t : Ty) (s : Sa) : Option Nat → Sa × Nat
  | none => (s, 32)
  | some k => if rdy t s k = true then ({ s with done := s.done.set k true }, 0) else (s, 32)
def fireP (t : Ty) (s : Sa) (o : Oq) : Sa × Nat := fireK t s (spot (t.stages.map Ru.name) o.name)
def tA (p : At × Int) : List UInt8 := [32] ++ p.1.name ++ [61] ++ Lib.itoa p.2
def tS (p : Ru × Bool) : List UInt8 := if p.2 = true then [32, 43] ++ p.1.name else []
def tM (p : Ru × Bool) : List UInt8 := if p.2 = true then [32, 42] ++ p.1.name else []
def textP (t : Ty) (s : Sa) : List UInt8 := t.name ++ (t.attrs.zip s.vals).flatMap tA ++ (t.stages.zip s.done).flatMap tS ++ (t.marks.zip s.got).flatMap tM
def readyP (t : Ty) (s : Sa) : List (List UInt8) := ((t.stages.zip s.done).filter (fun p => !p.2 && hld t s p.1.guard)).map (fun p => p.1.name)
def fin (t : Ty) (x : Sa × Nat) : Sa × List UInt8 × Nat := if x.2 = 0 then (settled t x.1, [], 0) else (Sa.none, [], x.2)
def applyP (t : Ty) (s : Sa) (o : Oq) : Sa × List UInt8 × Nat :=
  if o.kind = 2 then fin t (setP t s o) else if o.kind = 3 then fin t (addP t s o) else if o.kind = 4 then fin t (fireP t s o)
  else if o.kind = 5 then (s, textP t s, 0) else (Sa.none, [], 1)
def rawP (t : Ty) : Sa := ⟨t.name, t.attrs.map At.start, List.replicate t.stages.length false, List.replicate t.marks.length false⟩
def newP (t : Ty) : Sa := settled t (rawP t)

structure Sized (t : Ty) (s : Sa) : Prop where
  vals : s.vals.length = t.attrs.length
  done : s.done.length = t.stages.length
  got : s.got.length = t.marks.length
structure Fit (t : Ty) (s : Sa) : Prop where
  type : s.type = t.name
  sz : Sized t s
  within : ∀ k, k < t.attrs.length → wthn (t.attrs.getD k At.nil) (s.vals.getD k 0) = true

/-- What a right type is. -/
structure Good (t : Ty) : Prop where
  name : t.name.length ≤ 12
  na : t.attrs.length ≤ 6
  ns : t.stages.length ≤ 6
  nm : t.marks.length ≤ 6
  alone : (nms t).Nodup
  names : ∀ n ∈ nms t, n.length ≤ 12
  guards : ∀ r ∈ t.stages ++ t.marks, r.guard.length ≤ 120
  ranges : ∀ a ∈ t.attrs, -1000 ≤ a.lo ∧ a.lo ≤ a.start ∧ a.start ≤ a.hi ∧ a.hi ≤ 1000
theorem rns_good : ∀ {ns : List (List UInt8)} {ats : List At} {had : List (List UInt8)}, rns ats had ns = 0 → (∀ n ∈ ns, isName n = true ∧ n ∉ had) ∧ ns.Nodup ∧ (ats.length ≤ ns.length → ∀ a ∈ ats, ranged a = true)
  | [], ats, _, _ => ⟨fun n hn => (by cases hn), List.nodup_nil, fun h a ha => by
      have : ats = [] := List.length_eq_zero_iff.1 (by simpa using h)
      subst this
      cases ha⟩
  | n :: r, ats, had, h => by
    simp only [rns] at h
    by_cases h1 : isName n = false
    · rw [if_pos h1] at h; cases h
    · rw [if_neg h1] at h
      by_cases h2 : n ∈ had
      · rw [if_pos h2] at h; cases h
      · rw [if_neg h2] at h
        by_cases h3 : ats.head?.any (fun a => !ranged a) = true
        · rw [if_pos h3] at h; cases h
        · rw [if_neg h3] at h
          obtain ⟨g1, g2, g3⟩ := rns_good h
          refine ⟨fun x hx => ?_, List.nodup_cons.2 ⟨fun hn => (g1 n hn).2 (by simp), g2⟩, fun hl a ha => ?_⟩
          · rcases List.mem_cons.1 hx with rfl | hx
            · exact ⟨by simpa using h1, h2⟩
            · exact ⟨(g1 x hx).1, fun hh => (g1 x hx).2 (List.mem_append.2 (.inl hh))⟩
          · cases ats with
            | nil => cases ha
            | cons y ys =>
              rcases List.mem_cons.1 ha with rfl | ha
              · simpa using h3
              · exact g3 (by simpa using hl) a ha
theorem rgs_good {ns : List (List UInt8)} : ∀ {rs : List Ru}, rgs ns rs = 0 → ∀ r ∈ rs, (chk ns r.guard).1 = 0
  | [], _, r, hr => by cases hr
  | x :: l, h, r, hr => by
    simp only [rgs] at h
    by_cases h1 : (chk ns x.guard).1 ≠ 0
    · rw [if_pos h1] at h; exact absurd h h1
    · rw [if_neg h1] at h
      rcases List.mem_cons.1 hr with rfl | hr
      · exact Classical.not_not.1 h1
      · exact rgs_good h r hr
theorem good_of {t : Ty} (h : right t = 0) : Good t := by
  obtain ⟨h1, h2, h3, h4, h5, h6⟩ := right_few h
  obtain ⟨g1, g2, g3⟩ := rns_good h5
  refine ⟨(isName_all h1).2.2.1, h2, h3, h4, g2, fun n hn => (isName_all (g1 n hn).1).2.2.1, fun r hr => (chk_gd.1 (rgs_good h6 r hr)).1, fun a ha => ?_⟩
  have := g3 (by simp [nms]) a ha
  simp only [ranged, Bool.and_eq_true, decide_eq_true_eq] at this
  omega
theorem Good.attrN {t : Ty} (h : Good t) : (t.attrs.map At.name).Nodup := by
  have := h.alone
  unfold nms at this
  exact (List.nodup_append.1 (List.nodup_append.1 this).1).1
theorem Good.stageN {t : Ty} (h : Good t) : (t.stages.map Ru.name).Nodup := by
  have := h.alone
  unfold nms at this
  exact (List.nodup_append.1 (List.nodup_append.1 this).1).2.1
theorem Good.few {t : Ty} (h : Good t) : (nms t).length ≤ 18 := by
  have := h.na; have := h.ns; have := h.nm
  simp [nms]
  omega

/-- The first place, and in a row without doubles any. -/
theorem spot_at {ns : List (List UInt8)} {x : List UInt8} (hn : ns.Nodup) (k : Nat) (hk : k < ns.length) (he : ns[k] = x) : spot ns x = some k := by
  have hm : x ∈ ns := he ▸ List.getElem_mem hk
  have hi := List.idxOf_lt_length_of_mem hm
  have h1 : ns[ns.idxOf x] = x := List.getElem_idxOf hi
  have : ns.idxOf x = k := by
    rcases Nat.lt_trichotomy (ns.idxOf x) k with h | h | h
    · exact absurd (h1.trans he.symm) (List.pairwise_iff_getElem.1 hn _ _ hi hk h)
    · exact h
    · exact absurd (he.trans h1.symm) (List.pairwise_iff_getElem.1 hn _ _ hk hi h)
  rw [spot, if_pos hm, this]
theorem spot_no {ns : List (List UInt8)} {x : List UInt8} (h : ∀ k (hk : k < ns.length), ns[k] ≠ x) : spot ns x = none := by
  rw [spot, if_neg]
  intro hm
  obtain ⟨k, hk, e⟩ := List.getElem_of_mem hm
  exact h k hk e
theorem spot_some {ns : List (List UInt8)} {x : List UInt8} {k : Nat} (h : spot ns x = some k) : ∃ hk : k < ns.length, ns[k] = x := by
  unfold spot at h
  by_cases hm : x ∈ ns
  · rw [if_pos hm] at h
    cases h
    exact ⟨List.idxOf_lt_length_of_mem hm, List.getElem_idxOf _⟩
  · rw [if_neg hm] at h; cases h

theorem Fit.grows {t : Ty} {s s' : Sa} (h : Fit t s) (k : Grows s s') : Fit t s' :=
  ⟨k.type.trans h.type, ⟨by rw [k.vals]; exact h.sz.vals, by rw [k.done]; exact h.sz.done, k.got.trans h.sz.got⟩, fun i hi => by rw [k.vals]; exact h.within i hi⟩
theorem Fit.settled {t : Ty} {s : Sa} (h : Fit t s) : Fit t (settled t s) := h.grows (settled_grows t s)
theorem Fit.raw {t : Ty} (h : Good t) : Fit t (rawP t) := by
  refine ⟨rfl, ⟨by simp [rawP], by simp [rawP], by simp [rawP]⟩, fun k hk => ?_⟩
  have := h.ranges t.attrs[k] (List.getElem_mem hk)
  simp only [rawP, List.getD_eq_getElem?_getD, List.getElem?_map, hk, List.getElem?_eq_getElem, Option.map_some, Option.getD_some, wthn, Bool.and_eq_true, decide_eq_true_eq]
  omega
theorem Fit.new {t : Ty} (h : Good t) : Fit t (newP t) := (Fit.raw h).settled
theorem Fit.put {t : Ty} {s : Sa} (h : Fit t s) (k : Nat) (n : Int) : Fit t (putP t s k n).1 := by
  unfold putP
  by_cases hw : wthn (t.attrs.getD k At.nil) n = true
  · rw [if_pos hw]
    refine ⟨h.type, ⟨by simpa using h.sz.vals, h.sz.done, h.sz.got⟩, fun i hi => ?_⟩
    simp only [List.getD_eq_getElem?_getD, List.getElem?_set]
    by_cases hik : k = i
    · subst hik
      have : k < s.vals.length := by rw [h.sz.vals]; exact hi
      simp only [if_true, this, Option.getD_some]
      rw [List.getD_eq_getElem?_getD] at hw
      exact hw
    · rw [if_neg hik]
      have := h.within i hi
      rw [List.getD_eq_getElem?_getD, List.getD_eq_getElem?_getD] at this
      exact this
  · rw [if_neg hw]; exact h
theorem Fit.set {t : Ty} {s : Sa} (h : Fit t s) (o : Oq) : Fit t (setP t s o).1 := by
  unfold setP
  cases spot (t.attrs.map At.name) o.name with
  | none => exact h
  | some k => exact h.put _ _
theorem Fit.add {t : Ty} {s : Sa} (h : Fit t s) (o : Oq) : Fit t (addP t s o).1 := by
  unfold addP
  cases spot (t.attrs.map At.name) o.name with
  | none => exact h
  | some k =>
    show Fit t (if o.n < -2000 ∨ 2000 < o.n then (s, 34) else putP t s k (s.vals.getD k 0 + o.n)).1
    split
    · exact h
    · exact h.put _ _
theorem Fit.fire {t : Ty} {s : Sa} (h : Fit t s) (o : Oq) : Fit t (fireP t s o).1 := by
  unfold fireP
  cases spot (t.stages.map Ru.name) o.name with
  | none => exact h
  | some k =>
    show Fit t (if rdy t s k = true then (({ s with done := s.done.set k true } : Sa), 0) else (s, 32)).1
    split
    · exact ⟨h.type, ⟨h.sz.vals, by simpa using h.sz.done, h.sz.got⟩, h.within⟩
    · exact h
theorem Fit.fin {t : Ty} {x : Sa × Nat} (h : Fit t x.1) (h0 : (fin t x).2.2 = 0) : Fit t (fin t x).1 := by
  unfold Proofs.YtnddpalngjmhnabDoor.fin at h0 ⊢
  by_cases hx : x.2 = 0
  · rw [if_pos hx]; exact h.settled
  · rw [if_neg hx] at h0; exact absurd h0 hx
theorem Fit.apply {t : Ty} {s : Sa} (h : Fit t s) (o : Oq) (h0 : (applyP t s o).2.2 = 0) : Fit t (applyP t s o).1 := by
  unfold applyP at h0 ⊢
  split
  · rename_i hk; rw [if_pos hk] at h0; exact Fit.fin (h.set o) h0
  · rename_i hk; rw [if_neg hk] at h0
    split
    · rename_i hk; rw [if_pos hk] at h0; exact Fit.fin (h.add o) h0
    · rename_i hk; rw [if_neg hk] at h0
      split
      · rename_i hk; rw [if_pos hk] at h0; exact Fit.fin (h.fire o) h0
      · rename_i hk; rw [if_neg hk] at h0
        split
        · exact h
        · rename_i hk; rw [if_neg hk] at h0; cases h0

end Go.Proofs.YtnddpalngjmhnabDoor
