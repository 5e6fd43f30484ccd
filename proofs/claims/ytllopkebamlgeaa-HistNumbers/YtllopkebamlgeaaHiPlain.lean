/-
  What hist.Ops tells of a row of events, plainly, and what holds of it.
-/
import Derived.KernelRfl
namespace Go.Proofs.Ytllopkebamlgeaa

/-- A call: its client, the outcome, from, to. -/
structure Pc where
  cl : Int
  out : Int
  fr : Int
  tz : Int
/-- An event, as far as it matters: kind, client, outcome. -/
structure Pe where
  k : Int
  cl : Int
  out : Int
/-- The calls so far, and which of them waits for each client. -/
structure Ps where
  l : List Pc
  f : Int → Option Nat
def Ps.ask (s : Ps) (i : Nat) (c : Int) : Ps := ⟨s.l ++ [⟨c, 0, i, -1⟩], fun y => if y = c then some s.l.length else s.f y⟩
def Pc.told (x : Pc) (i : Nat) (out : Int) : Pc := ⟨x.cl, out, x.fr, i⟩
def Ps.tell (s : Ps) (i q : Nat) (c out : Int) : Ps := ⟨s.l.modify q (·.told i out), fun y => if y = c then none else s.f y⟩
def stepP (s : Ps) (i : Nat) (e : Pe) : Option Ps :=
  if e.k = 3 then some s
  else if e.k = 1 ∧ 0 ≤ e.cl ∧ s.f e.cl = none then some (s.ask i e.cl)
  else if e.k = 2 then (s.f e.cl).map fun q => s.tell i q e.cl e.out
  else none
/-- The calls, or the place of the first event that may not be. -/
inductive Pr where
  | calls (l : List Pc)
  | stops (i : Nat)
def runP (s : Ps) (i : Nat) : List Pe → Pr
  | [] => .calls s.l
  | e :: es => match stepP s i e with
    | some s' => runP s' (i + 1) es
    | none => .stops i
def noP : Ps := ⟨[], fun _ => none⟩
/-- Which wait, and where. -/
structure Inv (s : Ps) (i : Nat) (es : List Pe) : Prop where
  wait : ∀ c q, s.f c = some q → ∃ h : q < s.l.length, s.l[q].cl = c ∧ s.l[q].tz = -1
  only : ∀ q (h : q < s.l.length), s.l[q].tz = -1 → s.f s.l[q].cl = some q
  from' : ∀ q (h : q < s.l.length), 0 ≤ s.l[q].fr ∧ s.l[q].fr < i
  tz' : ∀ q (h : q < s.l.length), s.l[q].tz = -1 ∨ (s.l[q].fr < s.l[q].tz ∧ s.l[q].tz < i)
  rise : ∀ p q (h : q < s.l.length) (hp : p < q), s.l[p].fr < s.l[q].fr
  one : ∀ p q (h : q < s.l.length) (hp : p < q), s.l[p].cl = s.l[q].cl → 0 ≤ s.l[p].tz ∧ s.l[p].tz < s.l[q].fr
  called : s.l.length = es.countP (fun e => e.k == 1)
  ended : s.l.countP (fun x => decide (0 ≤ x.tz)) = es.countP (fun e => e.k == 2)
theorem Inv.nil : Inv noP 0 [] := ⟨fun c q h => by simp [noP] at h, fun q h => by simp [noP] at h, fun q h => by simp [noP] at h, fun q h => by simp [noP] at h, fun p q h => by simp [noP] at h, fun p q h => by simp [noP] at h, rfl, rfl⟩
section
variable {s : Ps} {i : Nat} {es : List Pe} {e : Pe}
theorem Inv.skip (h : Inv s i es) (he : e.k = 3) : Inv s (i + 1) (es ++ [e]) := by
  refine ⟨h.wait, h.only, fun q hq => ?_, fun q hq => ?_, h.rise, h.one, ?_, ?_⟩
  · have := h.from' q hq; omega
  · have := h.tz' q hq; omega
  · rw [h.called, List.countP_append]; simp [he]
  · rw [h.ended, List.countP_append]; simp [he]
theorem get_ask {l : List Pc} {x : Pc} {q : Nat} (h : q < (l ++ [x]).length) : (∃ hq : q < l.length, (l ++ [x])[q] = l[q]) ∨ (q = l.length ∧ (l ++ [x])[q] = x) := by
  rcases Nat.lt_or_ge q l.length with h1 | h1
  · exact .inl ⟨h1, List.getElem_append_left h1⟩
  · have : q = l.length := by simp at h; omega
    subst this
    exact .inr ⟨rfl, by simp⟩
theorem Inv.ask (h : Inv s i es) (he : e.k = 1) (hf : s.f e.cl = none) : Inv (s.ask i e.cl) (i + 1) (es ++ [e]) := by
  refine ⟨fun c q hq => ?_, fun q hq hw => ?_, fun q hq => ?_, fun q hq => ?_, fun p q hq hp => ?_, fun p q hq hp hc => ?_, ?_, ?_⟩
  · simp only [Ps.ask] at hq ⊢
    split at hq
    · rename_i hc
      cases hq
      exact ⟨by simp, by simp [hc]⟩
    · obtain ⟨h1, h2, h3⟩ := h.wait c q hq
      exact ⟨by simp; omega, by rw [List.getElem_append_left h1]; exact ⟨h2, h3⟩⟩
  · simp only [Ps.ask] at hq hw ⊢
    rcases get_ask hq with ⟨h1, e1⟩ | ⟨h1, e1⟩
    · rw [e1] at hw ⊢
      have h2 := h.only q h1 hw
      rw [if_neg (fun hc => by rw [hc, hf] at h2; cases h2)]
      exact h2
    · rw [e1, if_pos rfl, h1]
  · simp only [Ps.ask] at hq ⊢
    rcases get_ask hq with ⟨h1, e1⟩ | ⟨h1, e1⟩
    · rw [e1]
      have := h.from' q h1
      omega
    · rw [e1]
      simp only
      omega
  · simp only [Ps.ask] at hq ⊢
    rcases get_ask hq with ⟨h1, e1⟩ | ⟨h1, e1⟩
    · rw [e1]
      have := h.tz' q h1
      omega
    · rw [e1]
      exact .inl rfl
  · simp only [Ps.ask] at hq ⊢
    have hpl : p < s.l.length := by simp at hq; omega
    rw [List.getElem_append_left hpl]
    rcases get_ask hq with ⟨h1, e1⟩ | ⟨h1, e1⟩
    · rw [e1]
      exact h.rise p q h1 hp
    · rw [e1]
      have := h.from' p hpl
      simp only
      omega
  · simp only [Ps.ask] at hq hc ⊢
    have hpl : p < s.l.length := by simp at hq; omega
    rw [List.getElem_append_left hpl] at hc ⊢
    rcases get_ask hq with ⟨h1, e1⟩ | ⟨h1, e1⟩
    · rw [e1] at hc ⊢
      exact h.one p q h1 hp hc
    · rw [e1] at hc ⊢
      simp only at hc ⊢
      have h2 := h.tz' p hpl
      have h4 := h.from' p hpl
      have h3 : s.l[p].tz ≠ -1 := fun hw => by
        have := h.only p hpl hw
        rw [hc, hf] at this
        cases this
      omega
  · simp only [Ps.ask, List.length_append, List.countP_append, h.called]
    simp [he]
  · simp only [Ps.ask, List.countP_append, h.ended]
    simp [he]
theorem get_told {l : List Pc} {q p : Nat} {g : Pc → Pc} (h : p < (l.modify q g).length) : ∃ hp : p < l.length, (l.modify q g)[p] = if q = p then g l[p] else l[p] := by
  have hp : p < l.length := by simpa using h
  exact ⟨hp, by rw [List.getElem_modify]⟩
theorem count_told : ∀ {l : List Pc} {q : Nat} (hq : q < l.length) (i : Nat) (out : Int), l[q].tz = -1 → (l.modify q (·.told i out)).countP (fun x => decide (0 ≤ x.tz)) = l.countP (fun x => decide (0 ≤ x.tz)) + 1
  | x :: l, 0, _, i, out, h => by
    simp only [List.getElem_cons_zero] at h
    simp [List.modify_zero_cons, Pc.told, h]
  | x :: l, q + 1, hq, i, out, h => by
    have := count_told (l := l) (q := q) (by simpa using hq) i out (by simpa using h)
    rw [List.modify_succ_cons, List.countP_cons, List.countP_cons, this]
    omega
theorem Inv.tell (h : Inv s i es) (he : e.k = 2) {q0 : Nat} (hf : s.f e.cl = some q0) : Inv (s.tell i q0 e.cl e.out) (i + 1) (es ++ [e]) := by
  obtain ⟨hq0, hc0, hw0⟩ := h.wait _ _ hf
  refine ⟨fun c q hq => ?_, fun q hq hw => ?_, fun q hq => ?_, fun q hq => ?_, fun p q hq hp => ?_, fun p q hq hp hc => ?_, ?_, ?_⟩
  · simp only [Ps.tell] at hq ⊢
    split at hq
    · cases hq
    · rename_i hne
      obtain ⟨h1, h2, h3⟩ := h.wait c q hq
      have hn : q0 ≠ q := fun e1 => by subst e1; exact hne (h2.symm.trans hc0)
      obtain ⟨hp, e1⟩ := get_told (l := s.l) (q := q0) (p := q) (g := (·.told i e.out)) (by simpa using h1)
      exact ⟨by simpa using h1, by rw [e1, if_neg hn]; exact ⟨h2, h3⟩⟩
  · simp only [Ps.tell] at hq hw ⊢
    obtain ⟨hp, e1⟩ := get_told hq
    rw [e1] at hw ⊢
    split at hw
    · simp [Pc.told] at hw
    · rename_i hn
      rw [if_neg hn]
      have h2 := h.only q hp hw
      rw [if_neg (fun hc => by rw [hc, hf] at h2; cases h2; exact hn rfl)]
      exact h2
  · simp only [Ps.tell] at hq ⊢
    obtain ⟨hp, e1⟩ := get_told hq
    rw [e1]
    have := h.from' q hp
    split <;> (try simp only [Pc.told]) <;> omega
  · simp only [Ps.tell] at hq ⊢
    obtain ⟨hp, e1⟩ := get_told hq
    rw [e1]
    have h1 := h.from' q hp
    have h2 := h.tz' q hp
    split <;> (try simp only [Pc.told]) <;> omega
  · simp only [Ps.tell] at hq ⊢
    obtain ⟨hp1, e1⟩ := get_told hq
    obtain ⟨hp2, e2⟩ := get_told (l := s.l) (q := q0) (p := p) (g := (·.told i e.out)) (by have := hq; omega)
    rw [e1, e2]
    have := h.rise p q hp1 hp
    split <;> split <;> simpa only [Pc.told] using this
  · simp only [Ps.tell] at hq hc ⊢
    obtain ⟨hp1, e1⟩ := get_told hq
    obtain ⟨hp2, e2⟩ := get_told (l := s.l) (q := q0) (p := p) (g := (·.told i e.out)) (by have := hq; omega)
    have hc' : s.l[p].cl = s.l[q].cl := by
      rw [e1, e2] at hc
      split at hc <;> split at hc <;> simpa only [Pc.told] using hc
    have h1 := h.one p q hp1 hp hc'
    rw [e1, e2]
    have hn : q0 ≠ p := fun e3 => by subst e3; omega
    rw [if_neg hn]
    split <;> simpa only [Pc.told] using h1
  · simp only [Ps.tell, List.length_modify, List.countP_append, h.called]
    simp [he]
  · simp only [Ps.tell, List.countP_append]
    rw [count_told hq0 _ _ hw0, h.ended]
    simp [he]
theorem Inv.step {s' : Ps} (h : Inv s i es) (hs : stepP s i e = some s') : Inv s' (i + 1) (es ++ [e]) := by
  unfold stepP at hs
  split at hs
  · rename_i he
    cases hs
    exact h.skip he
  · split at hs
    · rename_i he
      cases hs
      exact h.ask he.1 he.2.2
    · split at hs
      · rename_i he
        cases hf : s.f e.cl with
        | none => rw [hf] at hs; cases hs
        | some q =>
          rw [hf] at hs
          cases hs
          exact h.tell he hf
      · cases hs
end
section
variable {s s' : Ps} {i q : Nat} {e : Pe} {es : List Pe}
theorem step_skip (h : e.k = 3) : stepP s i e = some s := by simp [stepP, h]
theorem step_ask (h : e.k = 1) (h0 : 0 ≤ e.cl) (hf : s.f e.cl = none) : stepP s i e = some (s.ask i e.cl) := by simp [stepP, h, h0, hf]
theorem step_tell (h : e.k = 2) (hf : s.f e.cl = some q) : stepP s i e = some (s.tell i q e.cl e.out) := by simp [stepP, h, hf]
theorem step_no (h3 : e.k ≠ 3) (h1 : e.k = 1 → 0 ≤ e.cl → s.f e.cl ≠ none) (h2 : e.k = 2 → s.f e.cl = none) : stepP s i e = none := by
  unfold stepP
  rw [if_neg h3, if_neg (fun h => h1 h.1 h.2.1 h.2.2)]
  split
  · rename_i h
    rw [h2 h]
    rfl
  · rfl
theorem run_step (h : stepP s i e = some s') : runP s i (e :: es) = runP s' (i + 1) es := by simp [runP, h]
theorem run_stop (h : stepP s i e = none) : runP s i (e :: es) = .stops i := by simp [runP, h]
end
theorem map_modify' {α β : Type} (f : α → β) (g : α → α) (h : β → β) (hf : ∀ x, f (g x) = h (f x)) : ∀ (l : List α) (q : Nat), (l.modify q g).map f = (l.map f).modify q h
  | [], q => by simp
  | x :: l, 0 => by simp [List.modify_zero_cons, hf]
  | x :: l, q + 1 => by simp [List.modify_succ_cons, map_modify' f g h hf l q]
/-- What holds of the calls that are told. -/
structure Told (l : List Pc) (es : List Pe) : Prop where
  rise : ∀ p q (h : q < l.length) (hp : p < q), l[p].fr < l[q].fr
  one : ∀ p q (h : q < l.length) (hp : p < q), l[p].cl = l[q].cl → 0 ≤ l[p].tz ∧ l[p].tz < l[q].fr
  called : l.length = es.countP (fun e => e.k == 1)
  ended : l.countP (fun x => decide (0 ≤ x.tz)) = es.countP (fun e => e.k == 2)
theorem runP_told : ∀ (rs : List Pe) (s : Ps) (i : Nat) (es : List Pe) (l : List Pc), Inv s i es → runP s i rs = .calls l → Told l (es ++ rs)
  | [], s, i, es, l, h, hr => by
    simp only [runP, Pr.calls.injEq] at hr
    subst hr
    rw [List.append_nil]
    exact ⟨h.rise, h.one, h.called, h.ended⟩
  | e :: rs, s, i, es, l, h, hr => by
    simp only [runP] at hr
    cases hs : stepP s i e with
    | none => rw [hs] at hr; cases hr
    | some s' =>
      rw [hs] at hr
      have := runP_told rs s' (i + 1) (es ++ [e]) l (h.step hs) hr
      simpa using this
theorem told_any {es : List Pe} {l : List Pc} (h : runP noP 0 es = .calls l) : Told l es := by simpa using runP_told es noP 0 [] l Inv.nil h

end Go.Proofs.Ytllopkebamlgeaa
