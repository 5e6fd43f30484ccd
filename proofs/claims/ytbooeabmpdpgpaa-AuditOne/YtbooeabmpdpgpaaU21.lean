/-
  Which claims Verify lets by, in words of their records alone.
-/
import Derived.Test.YtbooeabmpdpgpaaU20
import Derived.Test.YtbooeabmpdpgpaaU18
namespace Go.Proofs.Ytbooeabmpdpgpaa
open Go.RowKit Go.Maps Go.Sort

theorem snoc_ind {α : Type} {P : List α → Prop} (h0 : P []) (h1 : ∀ l x, P l → P (l ++ [x])) (l : List α) : P l := by
  have : ∀ m : List α, P m.reverse := fun m => by
    induction m with
    | nil => exact h0
    | cons x m ih => rw [List.reverse_cons]; exact h1 _ _ ih
  have h := this l.reverse
  rwa [List.reverse_reverse] at h
/-- What is told of tx, in words of the records. -/
structure TelIs (rs : List Ur) (tx : List UInt8) (t : Tl) : Prop where
  c : t.ks.c = true ↔ ∃ r ∈ rs, r.tx = tx ∧ r.k = 3
  a : t.ks.a = true ↔ ∃ r ∈ rs, r.tx = tx ∧ r.k = 4
  g : t.ks.c = true → ∃ r ∈ rs, r.tx = tx ∧ r.k = 3 ∧ r.gs = t.gs
  p : t.ap = true ↔ ∃ r ∈ rs, r.tx = tx ∧ r.k = 3 ∧ r.gs ≠ t.gs
theorem ex_snoc {rs : List Ur} {r : Ur} {P : Ur → Prop} : (∃ x ∈ rs ++ [r], P x) ↔ (∃ x ∈ rs, P x) ∨ P r := by
  constructor
  · rintro ⟨x, hx, h⟩
    rcases List.mem_append.1 hx with q | q
    · exact .inl ⟨x, q, h⟩
    · rw [List.mem_singleton.1 q] at h; exact .inr h
  · rintro (⟨x, hx, h⟩ | h)
    · exact ⟨x, List.mem_append_left _ hx, h⟩
    · exact ⟨r, by simp, h⟩
theorem tel_is (tx : List UInt8) (rs : List Ur) : TelIs rs tx (tel rs tx) := by
  refine snoc_ind (P := fun rs => TelIs rs tx (tel rs tx)) ?_ ?_ rs
  · exact ⟨by simp [tel, Tl.nil, K4.nil], by simp [tel, Tl.nil, K4.nil], fun h => by simp [tel, Tl.nil, K4.nil] at h, by simp [tel, Tl.nil]⟩
  · intro l r ih
    rw [tel_snoc]
    by_cases ht : r.tx = tx
    · rw [if_pos ht]
      obtain ⟨hc, ha, hg, hp⟩ := ih
      generalize tel l tx = t at *
      obtain ⟨⟨o, p, c, a⟩, gs, ap⟩ := t
      simp only at hc ha hg hp
      have nc : r.k = 3 ∧ c = false → ap = false := fun ⟨_, h⟩ => by
        cases hap : ap with
        | false => rfl
        | true =>
          obtain ⟨x, hx, h1, h2, _⟩ := hp.1 hap
          have := hc.2 ⟨x, hx, h1, h2⟩
          rw [h] at this; cases this
      refine ⟨?_, ?_, ?_, ?_⟩
      · rw [ex_snoc, ← hc]
        simp [Tl.step, K4.put, ht]
      · rw [ex_snoc, ← ha]
        simp [Tl.step, K4.put, ht]
      · intro h
        by_cases h3 : r.k = 3
        · by_cases hcf : c = false
          · exact ⟨r, by simp, ht, h3, by simp [Tl.step, h3, hcf]⟩
          · have hct : c = true := by simpa using hcf
            obtain ⟨x, hx, q⟩ := hg hct
            exact ⟨x, List.mem_append_left _ hx, by simpa [Tl.step, hct] using q⟩
        · have hct : c = true := by simpa [Tl.step, K4.put, h3] using h
          obtain ⟨x, hx, q⟩ := hg hct
          exact ⟨x, List.mem_append_left _ hx, by simpa [Tl.step, h3] using q⟩
      · rw [ex_snoc]
        by_cases h3 : r.k = 3
        · by_cases hcf : c = false
          · have := nc ⟨h3, hcf⟩
            subst this hcf
            simp only [Tl.step, h3, ht, and_self, if_true, true_and, ne_eq, not_true, or_false, Bool.false_eq_true, false_and, if_false, false_iff]
            rintro ⟨x, hx, h1, h2, _⟩
            have := hc.2 ⟨x, hx, h1, h2⟩
            cases this
          · have hct : c = true := by simpa using hcf
            subst hct
            by_cases hgs : gs = r.gs
            · subst hgs
              simp only [Tl.step, h3, ht, Bool.true_eq_false, and_false, if_false, ne_eq, not_true, or_false]
              exact hp
            · simp only [Tl.step, h3, ht, Bool.true_eq_false, and_false, if_false, true_and, ne_eq, hgs, not_false_eq_true, and_self, if_true, true_iff]
              exact .inr (fun q => hgs q.symm)
        · simp only [Tl.step, h3, false_and, if_false, and_false, or_false]
          exact hp
    · rw [if_neg ht]
      obtain ⟨hc, ha, hg, hp⟩ := ih
      have no : ∀ P : Ur → Prop, (∃ x ∈ l ++ [r], x.tx = tx ∧ P x) ↔ ∃ x ∈ l, x.tx = tx ∧ P x := fun P => by
        rw [ex_snoc]
        exact or_iff_left (fun q => ht q.1)
      refine ⟨?_, ?_, ?_, ?_⟩
      · rw [no]; exact hc
      · rw [no]; exact ha
      · intro h
        obtain ⟨x, hx, q⟩ := hg h
        exact ⟨x, List.mem_append_left _ hx, q⟩
      · rw [no]; exact hp
theorem kol_tel (rs : List Ur) (tx : List UInt8) : kol rs tx = (tel rs tx).ks := by
  refine snoc_ind (P := fun rs => kol rs tx = (tel rs tx).ks) rfl (fun l r ih => ?_) rs
  rw [kol_snoc, tel_snoc]
  by_cases h : r.tx = tx
  · rw [if_pos h, if_pos h, ih]; rfl
  · rw [if_neg h, if_neg h, ih]
theorem tel_apart (rs : List Ur) (tx : List UInt8) : (tel rs tx).ap = true ↔ ∃ r ∈ rs, ∃ r' ∈ rs, r.tx = tx ∧ r'.tx = tx ∧ r.k = 3 ∧ r'.k = 3 ∧ r.gs ≠ r'.gs := by
  have h := tel_is tx rs
  rw [h.p]
  constructor
  · rintro ⟨r, hr, h1, h2, h3⟩
    obtain ⟨r', hr', q1, q2, q3⟩ := h.g (h.c.2 ⟨r, hr, h1, h2⟩)
    exact ⟨r, hr, r', hr', h1, q1, h2, q2, by rw [q3]; exact h3⟩
  · rintro ⟨r, hr, r', hr', h1, h2, h3, h4, h5⟩
    by_cases q : r.gs = (tel rs tx).gs
    · exact ⟨r', hr', h2, h4, fun e => h5 (q.trans e.symm)⟩
    · exact ⟨r, hr, h1, h3, q⟩

/-- The entries of records. -/
def entM (rs : List Ur) : List Ue := entO (rs.map some) []
theorem entM_recs (rs : List Ur) : (entM rs).map (·.r) = rs := by
  have := entO_some rs []
  unfold entM
  simpa using this
theorem entM_mem {rs : List Ur} {x : Ue} (h : x ∈ entM rs) : x.r ∈ rs := by
  have : x.r ∈ (entM rs).map (·.r) := List.mem_map_of_mem h
  rwa [entM_recs] at this
theorem entM_of {rs : List Ur} {r : Ur} (h : r ∈ rs) : ∃ x ∈ entM rs, x.r = r := by
  have : r ∈ (entM rs).map (·.r) := by rw [entM_recs]; exact h
  obtain ⟨x, hx, e⟩ := List.mem_map.1 this
  exact ⟨x, hx, e⟩
/-- Pages of groups and records. -/
structure Pq (gr : List (Int × List Ur)) (pq : List (Up × Ua)) : Prop where
  len : pq.length = gr.length
  md : ∀ i (h1 : i < pq.length) (h2 : i < gr.length), MdP gr[i].1 gr[i].2 pq[i].1
def flat (gr : List (Int × List Ur)) : List Ur := gr.flatMap (·.2)
theorem Pq.all {gr : List (Int × List Ur)} {pq : List (Up × Ua)} (h : Pq gr pq) : allR (pq.map (·.1)) = flat gr := by
  unfold allR flat
  rw [List.flatMap_def, List.flatMap_def]
  congr 1
  refine List.ext_getElem (by simp [h.len]) fun i h1 h2 => ?_
  simp only [List.length_map] at h1 h2
  simp only [List.getElem_map]
  exact (h.md i h1 h2).recs
/-- No Commit beside an Abort of one transaction; no two Commits of one with unlike groups. -/
def Cross (rs : List Ur) : Prop := ∀ r ∈ rs, ∀ r' ∈ rs, r.tx = r'.tx → r.k = 3 → r'.k ≠ 4 ∧ (r'.k = 3 → r.gs = r'.gs)
/-- What rules 4, 6 and the end of 7 ask of one claim. -/
def Alone (p : Int × List Ur) : Prop := (∀ x ∈ entM p.2, g4 x = false ∧ g6 x = false) ∧ ∀ r ∈ p.2, r.k = 3 → (r.gs.any fun y => decide ((y : Int) = p.1)) = true
def AllNeg (pq : List (Up × Ua)) : Prop := ∀ j i, j < 7 → i < pq.length → RuleIs pq j i (-1)
theorem idx_neg {α : Type} {f : α → Bool} {xs : List α} : IdxIs f xs (-1) ↔ ∀ x ∈ xs, f x = false := by
  constructor
  · rintro (⟨_, h⟩ | ⟨k, _, e, _⟩)
    · exact h
    · omega
  · exact fun h => .inl ⟨rfl, h⟩
theorem md_neg {g : Int} {rs : List Ur} {p : Up} (m : MdP g rs p) (f : Ue → Bool) : IdxIs (fun x : Uz => f x.1) p.es (-1) ↔ ∀ x ∈ entM rs, f x = false := by
  rw [idx_map, m.es]
  exact idx_neg
theorem g5_all {rs : List Ur} (ps : List (List Ur)) (hs : ∀ p ∈ ps, ∀ r ∈ p, r ∈ rs) (hr : ∀ r ∈ rs, ∃ p ∈ ps, r ∈ p) : (∀ p ∈ ps, ∀ x ∈ entM p, g5 rs x = false) ↔ ∀ r ∈ rs, ∀ r' ∈ rs, r.tx = r'.tx → r.k = 3 → r'.k ≠ 4 := by
  constructor
  · intro h r q r' q' ht hk hk'
    obtain ⟨p, hp, hrp⟩ := hr r q
    obtain ⟨x, hx, e⟩ := entM_of hrp
    have := h p hp x hx
    have ha : (tel rs x.r.tx).ks.a = true := (tel_is x.r.tx rs).a.2 ⟨r', q', by rw [e]; exact ht.symm, hk'⟩
    unfold g5 at this
    rw [ha, e, hk] at this
    simp at this
  · intro h p hp x hx
    have hm := hs p hp _ (entM_mem hx)
    cases hg : g5 rs x with
    | false => rfl
    | true =>
      unfold g5 at hg
      simp only [Bool.or_eq_true, Bool.and_eq_true, decide_eq_true_eq] at hg
      rcases hg with ⟨h3, ha⟩ | ⟨h4, hc⟩
      · obtain ⟨r', q', t', k'⟩ := (tel_is x.r.tx rs).a.1 ha
        exact absurd k' (h _ hm _ q' t'.symm h3)
      · obtain ⟨r', q', t', k'⟩ := (tel_is x.r.tx rs).c.1 hc
        exact absurd h4 (h _ q' _ hm t' k')
theorem g7_all {rs : List Ur} (gr : List (Int × List Ur)) (hs : ∀ p ∈ gr, ∀ r ∈ p.2, r ∈ rs) (hr : ∀ r ∈ rs, ∃ p ∈ gr, r ∈ p.2) : (∀ p ∈ gr, ∀ x ∈ entM p.2, g7 rs p.1 x = false) ↔ (∀ r ∈ rs, ∀ r' ∈ rs, r.tx = r'.tx → r.k = 3 → r'.k = 3 → r.gs = r'.gs) ∧ ∀ p ∈ gr, ∀ r ∈ p.2, r.k = 3 → (r.gs.any fun y => decide ((y : Int) = p.1)) = true := by
  constructor
  · intro h
    refine ⟨fun r q r' q' ht hk hk' => ?_, fun p hp r hrp hk => ?_⟩
    · obtain ⟨p, hp, hrp⟩ := hr r q
      obtain ⟨x, hx, e⟩ := entM_of hrp
      have := h p hp x hx
      refine Classical.byContradiction fun hne => ?_
      have ha : (tel rs x.r.tx).ap = true := (tel_apart rs x.r.tx).2 ⟨r, q, r', q', by rw [e], by rw [e]; exact ht.symm, hk, hk', hne⟩
      unfold g7 at this
      rw [ha, e, hk] at this
      simp at this
    · obtain ⟨x, hx, e⟩ := entM_of hrp
      have := h p hp x hx
      unfold g7 at this
      rw [e, hk] at this
      simp only [decide_true, Bool.true_and, Bool.or_eq_false_iff, Bool.not_eq_false'] at this
      exact this.2
  · rintro ⟨h1, h2⟩ p hp x hx
    have hm := hs p hp _ (entM_mem hx)
    cases hg : g7 rs p.1 x with
    | false => rfl
    | true =>
      unfold g7 at hg
      simp only [Bool.or_eq_true, Bool.and_eq_true, decide_eq_true_eq, Bool.not_eq_true'] at hg
      obtain ⟨h3, hap | hno⟩ := hg
      · obtain ⟨r, q, r', q', t, t', k, k', hne⟩ := (tel_apart rs x.r.tx).1 hap
        exact absurd (h1 r q r' q' (t.trans t'.symm) k k') hne
      · rw [h2 p hp _ (entM_mem hx) h3] at hno
        cases hno
theorem allneg_iff {gr : List (Int × List Ur)} {pq : List (Up × Ua)} (h : Pq gr pq) : AllNeg pq ↔ (∀ i (hi : i < pq.length), IsU pq pq[i].1 (-1)) ∧ (∀ p ∈ gr, Alone p) ∧ Cross (flat gr) := by
  have hmem : ∀ p ∈ gr, ∀ r ∈ p.2, r ∈ flat gr := fun p hp r hr => List.mem_flatMap.2 ⟨p, hp, hr⟩
  have hof : ∀ r ∈ flat gr, ∃ p ∈ gr, r ∈ p.2 := fun r hr => List.mem_flatMap.1 hr
  have g5e := g5_all (rs := flat gr) (gr.map (·.2)) (fun p hp r hr => by obtain ⟨q, hq, rfl⟩ := List.mem_map.1 hp; exact hmem q hq r hr) (fun r hr => by obtain ⟨p, hp, q⟩ := hof r hr; exact ⟨p.2, List.mem_map_of_mem hp, q⟩)
  have g7e := g7_all (rs := flat gr) gr hmem hof
  have key : ∀ f : (Int × List Ur) → Ue → Bool, (∀ i (h1 : i < pq.length) (h2 : i < gr.length), IdxIs (fun x : Uz => f gr[i] x.1) pq[i].1.es (-1)) ↔ ∀ p ∈ gr, ∀ x ∈ entM p.2, f p x = false := fun f => by
    constructor
    · intro q p hp
      obtain ⟨i, hi, rfl⟩ := List.getElem_of_mem hp
      have h1 : i < pq.length := by rw [h.len]; exact hi
      exact (md_neg (h.md i h1 hi) _).1 (q i h1 hi)
    · intro q i h1 h2
      exact (md_neg (h.md i h1 h2) _).2 (q _ (List.getElem_mem h2))
  have k4 := key fun _ => g4
  have k5 := key fun _ => g5 (flat gr)
  have k6 := key fun _ => g6
  have k7 := key fun p => g7 (flat gr) p.1
  have hl := h.len
  constructor
  · intro q
    have r2 : ∀ i (hi : i < pq.length), IsU pq pq[i].1 (-1) := fun i hi => by
      obtain ⟨_, a | a | a | a | a | a | a⟩ := q 2 i (by decide) hi
      all_goals first | exact a.2 | exact absurd a.1 (by decide)
    have r3 := k4.1 fun i h1 h2 => by
      obtain ⟨_, a | a | a | a | a | a | a⟩ := q 3 i (by decide) h1
      all_goals first | exact a.2 | exact absurd a.1 (by decide)
    have r4 := k5.1 fun i h1 h2 => by
      obtain ⟨_, a | a | a | a | a | a | a⟩ := q 4 i (by decide) h1
      all_goals first | exact absurd a.1 (by decide) | (have := a.2; rw [h.all] at this; exact this)
    have r5 := k6.1 fun i h1 h2 => by
      obtain ⟨_, a | a | a | a | a | a | a⟩ := q 5 i (by decide) h1
      all_goals first | exact a.2 | exact absurd a.1 (by decide)
    have r6 := k7.1 fun i h1 h2 => by
      obtain ⟨_, a | a | a | a | a | a | a⟩ := q 6 i (by decide) h1
      all_goals first | exact absurd a.1 (by decide) | (have := a.2; rw [h.all, (h.md i h1 h2).g] at this; exact this)
    have c5 := g5e.1 (fun p hp => by obtain ⟨p', hp', rfl⟩ := List.mem_map.1 hp; exact r4 p' hp')
    obtain ⟨c7, d7⟩ := g7e.1 r6
    exact ⟨r2, fun p hp => ⟨fun x hx => ⟨r3 p hp x hx, r5 p hp x hx⟩, d7 p hp⟩, fun r q1 r' q2 ht hk => ⟨c5 r q1 r' q2 ht hk, c7 r q1 r' q2 ht hk⟩⟩
  · rintro ⟨r2, ha, hc⟩ j i hj hi
    have h2 : i < gr.length := by omega
    have m := h.md i hi h2
    refine ⟨hi, ?_⟩
    have r4 := k5.2 (fun p hp => (g5e.2 (fun r q1 r' q2 ht hk => (hc r q1 r' q2 ht hk).1)) p.2 (List.mem_map_of_mem hp)) i hi h2
    have r6 := k7.2 (g7e.2 ⟨fun r q1 r' q2 ht hk => (hc r q1 r' q2 ht hk).2, fun p hp => (ha p hp).2⟩) i hi h2
    rw [h.all]
    rw [m.g]
    have h7 : j = 0 ∨ j = 1 ∨ j = 2 ∨ j = 3 ∨ j = 4 ∨ j = 5 ∨ j = 6 := by omega
    rcases h7 with rfl | rfl | rfl | rfl | rfl | rfl | rfl
    · exact .inl ⟨rfl, m.one.symm⟩
    · exact .inr (.inl ⟨rfl, m.two.symm⟩)
    · exact .inr (.inr (.inl ⟨rfl, r2 i hi⟩))
    · exact .inr (.inr (.inr (.inl ⟨rfl, k4.2 (fun p hp x hx => ((ha p hp).1 x hx).1) i hi h2⟩)))
    · exact .inr (.inr (.inr (.inr (.inl ⟨rfl, r4⟩))))
    · exact .inr (.inr (.inr (.inr (.inr (.inl ⟨rfl, k6.2 (fun p hp x hx => ((ha p hp).1 x hx).2) i hi h2⟩)))))
    · exact .inr (.inr (.inr (.inr (.inr (.inr ⟨rfl, r6⟩)))))

end Go.Proofs.Ytbooeabmpdpgpaa
